
/- A partition that runs: modes, actions, cells, shots. Condition: at most a thousand cells. -/

import Derived.Test.YtjdgpbjjhgfikaaPtA

import Derived.Deep.WholeRow

namespace Go.Proofs.Ytjdgpbjjhgfikaa.Pt

open Go.RowKit Go.PlainAid Go.Proofs.Ytjdgpbjjhgfikaa.Args Go.Proofs.Ytjdgpbjjhgfikaa.Cel

open Go.Proofs.Ytjdgpbjjhgfikaa.Mod (askN startN setM setS actN actM actS size_ch)

set_option linter.unusedVariables false

set_option linter.unusedSimpArgs false

section

variable {w w' : World} {lo hi : Nat} {d : PD} {s : PK} {m st ca : Int} {ns : List Nat} {wr : Int}

theorem setM_no {m want : Int} (h : askN m want ≠ 0) : setM m want = m ∧ setS m want = 0 := by unfold setM setS; rw [if_neg h, if_neg h]; exact ⟨rfl, rfl⟩
theorem go_none (st ca wr cause : Int) (fs : List C2) (ns : List Nat) : goN 0 st = st ∧ goC 0 cause ca = ca ∧ goL 0 fs ns = ns ∧ goW 0 wr = wr := ⟨rfl, rfl, rfl, rfl⟩
set_option maxRecDepth 4000 in
theorem setmode_any (h : IsP w lo hi d s m st ca ns wr) (hn : s.n ≤ 1000) (hst : 0 ≤ st ∧ st ≤ 1000000) (want : Int) :
    Calls Try.prog 16 #[.pointer (some ⟨d.g, 0, none⟩), .int .i64 want] w fun e w' => e = .returned (.int .i64 (askN m want)) ∧ IsP w' lo hi d s (setM m want) (goN (setS m want) st) (goC (setS m want) 1 ca) (goL (setS m want) s.fs ns) (goW (setS m want) wr) ∧ Rng lo hi w w' := by
  obtain ⟨c0, -, -, -, -, -, -⟩ := h.cells
  obtain ⟨M, hM⟩ : ∃ x, setM m want = x := ⟨_, rfl⟩
  obtain ⟨T, hT⟩ : ∃ x, setS m want = x := ⟨_, rfl⟩
  obtain ⟨k, hk⟩ : ∃ x, askN m want = x := ⟨_, rfl⟩
  have HSM := Lib.hid (Go.Proofs.Ytjdgpbjjhgfikaa.Mod.set_any m want w)
  rw [hM, hT, hk] at HSM
  rw [hM, hT, hk]
  have HNO : Hid (k ≠ 0 → M = m ∧ T = 0) := fun hk0 => by
    have := setM_no (m := m) (want := want) (by rw [hk]; exact hk0)
    rw [hM, hT] at this; exact this
  have HP := Lib.hid h
  have HST : Hid (0 ≤ st ∧ st ≤ 1000000) := hst
  have HN : Hid (s.n ≤ 1000) := hn
  clear h hM hT hk hn hst
  go_enter Try.func16, Try.ntmps16
  go_wp2_with fail
  refine HSM.out.mono ?_
  rintro e w1 ⟨rfl, hb1⟩
  have hb2 : Below w1.heap.size w1 (w1.alloc (.cells #[.int .i64 M, .int .i64 T, .int .i64 k] 99)) := (Below.refl _ _).alloc (Nat.le_refl _) _
  have hx := heap_alloc_new w1 (.cells #[.int .i64 M, .int .i64 T, .int .i64 k] 99)
  have hp := (HP.out.keep hb1).keep hb2
  have hr : Rng lo hi w (w1.alloc (.cells #[.int .i64 M, .int .i64 T, .int .i64 k] 99)) := (rng_below hb1).trans (rng_below hb2)
  have hxs : hi ≤ w1.heap.size := Nat.le_trans HP.out.hs hb1.size
  go_upto_region 2 with fail
  obtain ⟨W, hW⟩ : ∃ W, w1.alloc (.cells #[.int .i64 M, .int .i64 T, .int .i64 k] 99) = W := ⟨_, rfl⟩
  obtain ⟨X, hX⟩ : ∃ X, w1.heap.size = X := ⟨_, rfl⟩
  rw [hW] at hx hp hr
  rw [hX] at hx hxs
  have HXS : Hid (hi ≤ X) := hxs
  rw [hW, hX]
  have HX := Lib.hid hx
  have HQ := Lib.hid hp
  have HR := Lib.hid hr
  have x2 := cell_of_row _ _ 2 _ _ _ hx
  simp only [List.getElem?_toArray, List.getElem?_cons_zero, List.getElem?_cons_succ] at x2
  clear hx hp hr hb1 hb2 hW hX hxs c0 HP HSM
  by_cases h0 : k = 0
  · subst h0
    go_wp2_with ((with_reducible show wpList _ _ _ _ _ _); refine wpList_load_row rfl 99 (.tmp 5) rfl X rfl 99 _ (0, 0) _ HX.out Try.underlying99 rfl (by rw [size_ch]; rfl) ?_)
    refine (come_any HQ.out HN.out HST.out M T 0 1).mono ?_
    rintro e w2 ⟨rfl, hp2, hr2⟩
    have hx2 : w2.cell? ⟨X, 2, none⟩ = some (.int .i64 0) := by
      rcases (show X < lo ∨ hi ≤ X ∨ (lo ≤ X ∧ X < hi) by omega) with h | h | h
      · rw [cell_of_row _ _ _ _ _ _ ((hr2.block X (lt_of_block HX.out) (.inl h)).trans HX.out)]; rfl
      · rw [cell_of_row _ _ _ _ _ _ ((hr2.block X (lt_of_block HX.out) (.inr h)).trans HX.out)]; rfl
      · have := HQ.out.hs; have := HXS.out; omega
    have HP2 := Lib.hid hp2
    have HR2 := Lib.hid (HR.out.trans hr2)
    clear hp2 hr2 x2 HX HQ HR
    go_wp2
    go_ret
    exact ⟨rfl, HP2.out, HR2.out⟩
  · obtain ⟨e1, e2⟩ := HNO.out h0
    have t0 : (k == 0) = false := by simp [h0]
    subst e1 e2
    clear h0 HNO
    go_wp2
    go_ret
    exact ⟨rfl, HQ.out, HR.out⟩
set_option maxRecDepth 4000 in
theorem act_any (h : IsP w lo hi d s m st ca ns wr) (hn : s.n ≤ 1000) (hst : 0 ≤ st ∧ st ≤ 1000000) (act : Int) :
    Calls Try.prog 45 #[.pointer (some ⟨d.g, 0, none⟩), .int .i64 act] w fun e w' => e = .returned (.bool (goes (actS m act))) ∧ IsP w' lo hi d s (actM m act) (goN (actS m act) st) (goC (actS m act) 2 ca) (goL (actS m act) s.fs ns) (goW (actS m act) wr) ∧ Rng lo hi w w' := by
  obtain ⟨c0, -, -, -, -, -, -⟩ := h.cells
  obtain ⟨M, hM⟩ : ∃ x, actM m act = x := ⟨_, rfl⟩
  obtain ⟨T, hT⟩ : ∃ x, actS m act = x := ⟨_, rfl⟩
  obtain ⟨k, hk⟩ : ∃ x, actN act = x := ⟨_, rfl⟩
  have HSM := Lib.hid (act_any2 m act w)
  rw [hM, hT, hk] at HSM
  rw [hM, hT]
  have HP := Lib.hid h
  have HST : Hid (0 ≤ st ∧ st ≤ 1000000) := hst
  have HN : Hid (s.n ≤ 1000) := hn
  clear h hM hT hk hn hst
  go_enter Try.func45, Try.ntmps45
  go_wp2_with fail
  refine HSM.out.mono ?_
  rintro e w1 ⟨rfl, hb1⟩
  have HQ := Lib.hid (HP.out.keep hb1)
  have HR : Hid (Rng lo hi w w1) := rng_below hb1
  clear hb1 c0 HP HSM
  go_wp2_with fail
  refine (come_any HQ.out HN.out HST.out M T k 2).mono ?_
  rintro e w2 ⟨rfl, hp2, hr2⟩
  have HP2 := Lib.hid hp2
  have HR2 := Lib.hid (HR.out.trans hr2)
  obtain ⟨b, hb⟩ : ∃ b, goes T = b := ⟨_, rfl⟩
  rw [hb]
  clear hp2 hr2 HQ HR
  go_wp2
  go_ret
  exact ⟨by rw [hb]; rfl, HP2.out, HR2.out⟩
/-- Which code a call for a cell tells. -/
def cellK (m : Int) (n : Nat) (i : Int) : Int := if m = 0 then 5 else if inB n i then 0 else 3
def wL (m : Int) (n : Nat) (i : Int) (v : Nat) (ns : List Nat) : List Nat := if m = 0 then ns else setN n i v ns
def wW (m : Int) (n : Nat) (i : Int) (wr : Int) : Int := if m = 0 then wr else setW n i wr
def rdV (m : Int) (n : Nat) (i : Int) (ns : List Nat) : Nat := if m = 0 then 0 else gvN n i ns
theorem write_any (h : IsP w lo hi d s m st ca ns wr) (hm : 0 ≤ m ∧ m ≤ 3) (hw : 0 ≤ wr ∧ wr ≤ 1000000) (i : Int) (v : Nat) :
    Calls Try.prog 18 #[.pointer (some ⟨d.g, 0, none⟩), .int .i64 i, .int .u32 (v : Int)] w fun e w' => e = .returned (.int .i64 (cellK m s.n i)) ∧ IsP w' lo hi d s m st ca (wL m s.n i v ns) (wW m s.n i wr) ∧ Rng lo hi w w' := by
  obtain ⟨c0, c1, c2, c3, c4, c5, c6⟩ := h.cells
  unfold cellK wL wW
  by_cases h0 : m = 0
  · rw [if_pos h0, if_pos h0, if_pos h0]
    have HRU := Lib.hid (Go.Proofs.Ytjdgpbjjhgfikaa.Mod.runs_no m w (by omega))
    clear h0 hm hw
    go_enter Try.func18, Try.ntmps18
    go_wp2_with fail
    refine HRU.out.mono ?_
    rintro e w1 ⟨rfl, rfl⟩
    go_wp2
    go_ret
    exact ⟨rfl, h, Rng.refl _ _ _⟩
  · rw [if_neg h0, if_neg h0, if_neg h0]
    have HRU := Lib.hid (Go.Proofs.Ytjdgpbjjhgfikaa.Mod.runs_yes m w (by omega) hm.2)
    have HSE := Lib.hid (Go.Proofs.Ytjdgpbjjhgfikaa.Cel.set_any d.cg i v w h.ic hw)
    have HP := Lib.hid h
    obtain ⟨b, hb⟩ : ∃ b, inB s.n i = b := ⟨_, rfl⟩
    rw [hb] at HSE
    rw [hb]
    have HT := Lib.hid (told_any b)
    obtain ⟨k, hk⟩ : ∃ k : Int, (if b then 0 else 3) = k := ⟨_, rfl⟩
    rw [hk] at HT
    rw [hk]
    clear h0 hm hw h hb hk
    go_enter Try.func18, Try.ntmps18
    go_wp2_with fail
    refine HRU.out.mono ?_
    rintro e w1 ⟨rfl, rfl⟩
    go_wp2_with fail
    refine HSE.out.mono ?_
    rintro e w2 ⟨rfl, hic, htw⟩
    have HC := Lib.hid (HP.out.cel hic htw)
    clear hic htw
    go_wp2_with fail
    refine (HT.out w2).mono ?_
    rintro e w3 ⟨rfl, rfl⟩
    go_wp2
    go_ret
    exact ⟨rfl, HC.out.1, HC.out.2⟩
theorem row_setP {W : World} {X o : Nat} {T : TypeId} {cs : Array Value} (v : Value) (h : W.heap[X]? = some (.cells cs T (0, 0))) : (W.setCell ⟨X, o, none⟩ v).heap[X]? = some (.cells (cs.setIfInBounds o v) T (0, 0)) := by
  rw [setCell_eq_setRow W X o cs T (0, 0) v h]; exact setRow_heap _ _ _ _ _ _ h
theorem setRow_eq5 {W : World} {X : Nat} {T : TypeId} {a0 a1 a2 a3 a4 : Value} (v0 v1 v2 v3 v4 : Value) (h : W.heap[X]? = some (.cells #[a0, a1, a2, a3, a4] T (0, 0))) :
    (W.cell? ⟨X, 0, none⟩ = some a0 ∧ W.frozen? ⟨X, 0, none⟩ = false) ∧ ((W.setCell ⟨X, 0, none⟩ v0).cell? ⟨X, 1, none⟩ = some a1 ∧ (W.setCell ⟨X, 0, none⟩ v0).frozen? ⟨X, 1, none⟩ = false) ∧
    (((W.setCell ⟨X, 0, none⟩ v0).setCell ⟨X, 1, none⟩ v1).cell? ⟨X, 2, none⟩ = some a2 ∧ ((W.setCell ⟨X, 0, none⟩ v0).setCell ⟨X, 1, none⟩ v1).frozen? ⟨X, 2, none⟩ = false) ∧
    ((((W.setCell ⟨X, 0, none⟩ v0).setCell ⟨X, 1, none⟩ v1).setCell ⟨X, 2, none⟩ v2).cell? ⟨X, 3, none⟩ = some a3 ∧ (((W.setCell ⟨X, 0, none⟩ v0).setCell ⟨X, 1, none⟩ v1).setCell ⟨X, 2, none⟩ v2).frozen? ⟨X, 3, none⟩ = false) ∧
    (((((W.setCell ⟨X, 0, none⟩ v0).setCell ⟨X, 1, none⟩ v1).setCell ⟨X, 2, none⟩ v2).setCell ⟨X, 3, none⟩ v3).cell? ⟨X, 4, none⟩ = some a4 ∧ ((((W.setCell ⟨X, 0, none⟩ v0).setCell ⟨X, 1, none⟩ v1).setCell ⟨X, 2, none⟩ v2).setCell ⟨X, 3, none⟩ v3).frozen? ⟨X, 4, none⟩ = false) ∧
    (((((W.setCell ⟨X, 0, none⟩ v0).setCell ⟨X, 1, none⟩ v1).setCell ⟨X, 2, none⟩ v2).setCell ⟨X, 3, none⟩ v3).setCell ⟨X, 4, none⟩ v4) = W.setRow X #[v0, v1, v2, v3, v4] := by
  have k0 := row_setP (o := 0) v0 h
  have k1 := row_setP (o := 1) v1 k0
  have k2 := row_setP (o := 2) v2 k1
  have k3 := row_setP (o := 3) v3 k2
  have cf : ∀ {U : World} {cs : Array Value} (o : Nat), U.heap[X]? = some (.cells cs T (0, 0)) → U.cell? ⟨X, o, none⟩ = cs[o]? ∧ U.frozen? ⟨X, o, none⟩ = false := fun o hu => ⟨cell_of_row _ _ _ _ _ _ hu, by simp [World.frozen?, hu]⟩
  refine ⟨cf 0 h, cf 1 k0, cf 2 k1, cf 3 k2, cf 4 k3, ?_⟩
  rw [setCell_eq_setRow W X 0 _ T (0, 0) v0 h, setCell_eq_setRow _ X 1 _ T (0, 0) v1 (setRow_heap _ _ _ _ _ _ h), setRow_setRow, setCell_eq_setRow _ X 2 _ T (0, 0) v2 (setRow_heap _ _ _ _ _ _ h), setRow_setRow, setCell_eq_setRow _ X 3 _ T (0, 0) v3 (setRow_heap _ _ _ _ _ _ h), setRow_setRow, setCell_eq_setRow _ X 4 _ T (0, 0) v4 (setRow_heap _ _ _ _ _ _ h), setRow_setRow]
  rfl
theorem size_shot : (Try.prog.info? 79).map (·.size) = some 5 := by kernel_rfl
section
attribute [-go_sem] storeVar
set_option maxRecDepth 4000 in
set_option maxHeartbeats 1600000 in
/-- What it is now. -/
theorem shot_any (h : IsP w lo hi d s m st ca ns wr) (hn : s.n ≤ 1000) :
    Calls Try.prog 48 #[.pointer (some ⟨d.g, 0, none⟩)] w fun e w' => ∃ (V : Option Addr) (vc : Nat), e = .returned (.agg #[.int .i64 s.id, .int .i64 m, .int .i64 st, .int .i64 ca, .slice V s.n vc]) ∧ w'.ownsRow w.heap.size 40 1 (.slice V s.n vc) s.n (vs ns) ∧ Below w.heap.size w w' := by
  have hb : Below w.heap.size w (w.alloc (.cells #[.int .i64 0, .int .i64 0, .int .i64 0, .int .i64 0, .slice none 0 0] 79)) := (Below.refl _ _).alloc (Nat.le_refl _) _
  have hx := heap_alloc_new w (.cells #[.int .i64 0, .int .i64 0, .int .i64 0, .int .i64 0, .slice none 0 0] 79)
  have hp := h.keep hb
  have hsz : w.heap.size ≤ (w.alloc (.cells #[.int .i64 0, .int .i64 0, .int .i64 0, .int .i64 0, .slice none 0 0] 79)).heap.size := hb.size
  have hlt := lt_of_block hx
  obtain ⟨W, hW⟩ : ∃ W, w.alloc (.cells #[.int .i64 0, .int .i64 0, .int .i64 0, .int .i64 0, .slice none 0 0] 79) = W := ⟨_, rfl⟩
  rw [hW] at hb hx hp hsz hlt
  have HW := Lib.hid hW
  obtain ⟨X, hX⟩ : ∃ X, w.heap.size = X := ⟨_, rfl⟩
  rw [hX] at hx hlt
  have HXX := Lib.hid hX
  have HX := Lib.hid hx
  have HB := Lib.hid hb
  have HP := Lib.hid hp
  have HD := Lib.hid (hp.drewN 1)
  have HSZ := Lib.hid hsz
  have HLT := Lib.hid hlt
  have HN : Hid (s.n ≤ 1000) := hn
  have HNX : Hid (d.g ≠ X) := by have := lt_of_block h.box; show _ ≠ _; omega
  have HQ := hp.cells
  clear h hb hx hp hsz hlt hW hX hn
  go_enter Try.func48, Try.ntmps48
  go_upto_region 1 with fail
  rw [HW.out, HXX.out]
  obtain ⟨c0, c1, c2, c3, c4, c5, c6⟩ := HQ
  go_region_held3 (fun wx => wx.cell? ⟨d.g, 3, none⟩ = some (.pointer (some ⟨d.cg, 0, none⟩)) ∧ wx.cell? ⟨d.g, 4, none⟩ = some (.int .i64 s.id))
    (first | exact HKS.out | exact HKP.out | (refine ⟨?_, ?_⟩ <;> assumption) | (go_keep; done))
    (first
      | (go_at_call 49; refine (mode_any HD.out).mono ?_; rintro e w' ⟨rfl, rfl⟩)
      | (go_at_call 70; refine (starts_any HD.out).mono ?_; rintro e w' ⟨rfl, rfl⟩)
      | (go_at_call 71; refine (cause_any HD.out).mono ?_; rintro e w' ⟨rfl, rfl⟩)
      | (go_at_call 72; refine (all_any d.cg _ HD.out.ic HN.out).mono ?_; rintro e wA ⟨V, rfl, ho, hbA⟩; obtain ⟨D, dc, rfl⟩ := own_slice ho; have HO := Lib.hid ho; have hbB : Below W.heap.size W wA := (below_drew (Below.refl _ _)).trans hbA; have HBA := Lib.hid hbB; have HXA := Lib.hid ((hbB.block X HLT.out).trans HX.out); have hst : Sem.run Try.prog (storeVar 79 ⟨X, 0, none⟩ (.agg #[.int .i64 s.id, .int .i64 m, .int .i64 st, .int .i64 ca, .slice D s.n dc])) wA = .ok () (wA.setRow X #[.int .i64 s.id, .int .i64 m, .int .i64 st, .int .i64 ca, .slice D s.n dc]) := run_storeVar_row wA X _ _ #[.int .i64 0, .int .i64 0, .int .i64 0, .int .i64 0, .slice none 0 0] _ HXA.out (by rw [size_shot]; rfl) rfl (by simp [Value.oneCell']); have g3 := ((HP.out.keep hbB).cells).2.2.2.1; have g4 := ((HP.out.keep hbB).cells).2.2.2.2.1; have hne : d.g ≠ X := HNX.out; have HKS : Hid ((wA.setRow X #[.int .i64 s.id, .int .i64 m, .int .i64 st, .int .i64 ca, .slice D s.n dc]).cell? ⟨d.g, 3, none⟩ = some (.pointer (some ⟨d.cg, 0, none⟩)) ∧ (wA.setRow X #[.int .i64 s.id, .int .i64 m, .int .i64 st, .int .i64 ca, .slice D s.n dc]).cell? ⟨d.g, 4, none⟩ = some (.int .i64 s.id)) := ⟨(World.cell?_of_block (setRow_other _ _ _ _ hne)).trans g3, (World.cell?_of_block (setRow_other _ _ _ _ hne)).trans g4⟩; have HKP : Hid (wA.cell? ⟨d.g, 3, none⟩ = some (.pointer (some ⟨d.cg, 0, none⟩)) ∧ wA.cell? ⟨d.g, 4, none⟩ = some (.int .i64 s.id)) := ⟨g3, g4⟩; clear ho hbA hbB g3 g4 hne))
  all_goals
    go_wp2
    refine bodyPost_ret (v := .agg #[.int .i64 s.id, .int .i64 m, .int .i64 st, .int .i64 ca, .slice D s.n dc]) (results_cell_row (by rfl) _ _ X 79 _ (0, 0) _ rfl (setRow_heap _ _ _ _ _ _ HXA.out) Try.underlying79 rfl (by rw [size_shot]; rfl)) rfl ⟨D, dc, rfl, ?_, ?_⟩
    · have h1 : (W.drewN 1).heap.size = W.heap.size := rfl
      have h2 := HSZ.out
      have h3 := HLT.out
      refine own_base (HO.out.kept (row := some X) ⟨rfl, rfl, rfl, by simp, fun i _ hi => setRow_other _ _ _ _ (fun e => hi (by simp [e]))⟩ ?_) (by rw [h1]; exact h2)
      cases hD : D with
      | none => exact .inl rfl
      | some a =>
        right
        intro e
        have h4 := (own_at HO.out a hD).2.1
        have h5 : a.block = X := Option.some.inj e
        omega
    · exact (HB.out.trans (HBA.out.mono HSZ.out)).trans ⟨rfl, rfl, rfl, by simp, fun b hb => setRow_other _ _ _ _ (by have := HXX.out; omega)⟩
end

end

end Go.Proofs.Ytjdgpbjjhgfikaa.Pt
