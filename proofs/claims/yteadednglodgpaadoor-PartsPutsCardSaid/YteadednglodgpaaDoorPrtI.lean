
/- What package parts reads of a partition's cells. Condition: the variables hold what the program lays there; the reader stands within a text of at most 2 to the power 40 bytes. What package parts reads of a partition. Condition: the variables hold what the program lays there; the reader stands within a text of at most 2 to the power 40 bytes. What package parts' Read reads. Condition: the variables hold what the program lays there; the reader stands within a text of at most 2 to the power 40 bytes; at most 1,000 partitions. -/

import Derived.Test.YteadednglodgpaaDoorPrtF

import Derived.Test.YteadednglodgpaaDoorActR

namespace Go.Proofs.YteadednglodgpaaDoor.Prt

open Go.RowKit Go.PlainAid Go.Proofs.YteadednglodgpaaDoor.Oct Go.Proofs.YteadednglodgpaaDoor.Flt Go.Proofs.YteadednglodgpaaDoor.Rdr Go.Proofs.YteadednglodgpaaDoor.Nam

open Go.Proofs.YteadednglodgpaaDoor.Act (row_beside row_base)

set_option linter.unusedVariables false

set_option linter.unusedSimpArgs false

def flS (t : St) : St := needS (decide ((numV t 1 : Int) ≤ 1)) (numS t 1) 6 t.p
def flV (t : St) : Bool := (numV t 1 : Int) == 1
theorem ok_fl {t : St} (h : Ok t) : Ok (flS t) := ok_need (ok_num h _) _ _ _
def BPost (g : Nat) (t : St) (b : Bool) (w : World) (e : Ending) (w' : World) : Prop := e = .returned (.bool b) ∧ IsRdr w' g t ∧ Just g w w'
set_option maxRecDepth 4000 in
theorem flag_any (g : Nat) (t : St) (w : World) (hn : Names w) (h : IsRdr w g t) (ho : Ok t) :
    Calls Tryd.prog 79 #[.pointer (some ⟨g, 0, none⟩)] w (BPost g (flS t) (flV t) w) := by
  have HN := Lib.hid hn
  have HR := Lib.hid h
  have HP := Lib.hid (place_any g t w h)
  have HU := Lib.hid (u8_any g t w hn h ho)
  have HT : Hid (needS (decide ((numV t 1 : Int) ≤ 1)) (numS t 1) 6 t.p = flS t) := rfl
  have HV : Hid (((numV t 1 : Int) == 1) = flV t) := rfl
  have hle := u8_le t
  obtain ⟨T1, hT1⟩ : ∃ T1, numS t 1 = T1 := ⟨_, rfl⟩
  obtain ⟨V, hV⟩ : ∃ V, numV t 1 = V := ⟨_, rfl⟩
  obtain ⟨T2, hT2⟩ : ∃ T2, flS t = T2 := ⟨_, rfl⟩
  obtain ⟨F, hF⟩ : ∃ F, flV t = F := ⟨_, rfl⟩
  obtain ⟨P, hP⟩ : ∃ P, t.p = P := ⟨_, rfl⟩
  rw [hT1, hV] at HU
  rw [hT1, hV, hT2, hP] at HT
  rw [hV, hF] at HV
  rw [hV] at hle
  rw [hP] at HP
  rw [hT2, hF]
  obtain ⟨D, hD⟩ : ∃ D, decide ((V : Int) ≤ 1) = D := ⟨_, rfl⟩
  rw [hD] at HT
  clear hn h ho hT1 hV hT2 hF hP
  cases D
  all_goals cases F
  all_goals
    have hv1 := HV.out
    go_enter Tryd.func79, Tryd.ntmps79
    go_wp2_with (first
      | (go_at_call 20; refine HP.out.mono ?_; rintro e w' ⟨rfl, rfl⟩)
      | (go_at_call 45; refine HU.out.mono ?_; rintro e w1 ⟨rfl, hr1, hj1⟩; have HR1 := Lib.hid hr1; have HJ1 := Lib.hid hj1; clear hr1 hj1)
      | (go_at_call 44; refine (need_any g _ T1 6 P _ (Rdr.Names.just HN.out HR.out HJ1.out) (by omega) HR1.out).mono ?_; rintro e w2 ⟨rfl, hr2, hj2⟩; rw [HT.out] at hr2; have HR2 := Lib.hid hr2; have HJ2 := Lib.hid (HJ1.out.trans hj2); clear hr2 hj2))
    go_ret
    exact ⟨rfl, HR2.out, HJ2.out⟩
def flatC (l : List C2) : List Value := l.flatMap celL
theorem flatC_snoc (l : List C2) (x : C2) : flatC (l ++ [x]) = flatC l ++ celL x := by simp [flatC]
theorem flatC_len (l : List C2) : (flatC l).length = l.length * 2 := by
  induction l with
  | nil => rfl
  | cons x l ih => simp [flatC, celL] at ih ⊢; omega
def ceS (t : St) : St := numS (flS t) 4
def ceV (t : St) : C2 := ⟨numV (flS t) 4, flV t⟩
def ceN (t : St) : Nat → St × List C2
  | 0 => (t, [])
  | i + 1 => (ceS (ceN t i).1, (ceN t i).2 ++ [ceV (ceN t i).1])
theorem ceN_len (t : St) : ∀ i, (ceN t i).2.length = i
  | 0 => rfl
  | i + 1 => by rw [ceN]; simp [ceN_len t i]
theorem ok_ce {t : St} (h : Ok t) : ∀ i, Ok (ceN t i).1
  | 0 => h
  | i + 1 => ok_num (ok_fl (ok_ce h i)) _
def hdS (t : St) : St := needS (decide ((numV t 1 : Int) ≤ 16)) (numS t 1) 8 t.p
def clS (t : St) : St := if (hdS t).k = 0 then (ceN (hdS t) (numV t 1)).1 else hdS t
def clV (t : St) : List C2 := if (hdS t).k = 0 then (ceN (hdS t) (numV t 1)).2 else []
theorem ok_hd {t : St} (h : Ok t) : Ok (hdS t) := ok_need (ok_num h _) _ _ _
theorem ok_cl {t : St} (h : Ok t) : Ok (clS t) := by
  unfold clS; split
  · exact ok_ce (ok_hd h) _
  · exact ok_hd h
theorem just_cell (w : World) (c o : Nat) (v : Value) : Just c w (w.setCell ⟨c, o, none⟩ v) := by
  have x := (Below.refl 0 w).setCell (p := ⟨c, o, none⟩) (Nat.zero_le _) v
  exact ⟨x.os, x.tape, x.output, x.size, fun k hk hne => heap_setCell_other w _ k v hne⟩
/-- Within cells: the reader, the row so far. -/
structure CA (g : Nat) (t : St) (l : List C2) (V : Value) (w wr : World) : Prop where
  rd : IsRdr wr g t
  own : wr.ownsRow w.heap.size 74 2 V l.length (flatC l)
  just : Just g w wr
  gl : g < w.heap.size
/-- .. and a cell of the call's own. -/
structure CB (g C : Nat) (t : St) (l : List C2) (V : Value) (cs : Array Value) (w wr : World) : Prop where
  ca : CA g t l V w wr
  row : wr.heap[C]? = some (.cells cs 74 (0, 0))
  cl : w.heap.size ≤ C
  vc : ∀ k, V.ownBlock = some k → k ≠ C
theorem CA.rdr {g : Nat} {t t' : St} {l : List C2} {V : Value} {w wr w' : World} (f : CA g t l V w wr) (hr : IsRdr w' g t') (j : Just g wr w') : CA g t' l V w w' := by
  have h1 := f.gl
  exact ⟨hr, row_beside f.own j fun k hk => (by have := (f.own.lt k hk).1; omega), f.just.trans j, h1⟩
theorem CA.keep {g : Nat} {t : St} {l : List C2} {V : Value} {w wr w' : World} (f : CA g t l V w wr) (b : Below wr.heap.size wr w') : CA g t l V w w' := f.rdr (f.rd.kept b) (Just.of_below b)
theorem CA.cell {g : Nat} {t : St} {l : List C2} {V : Value} {w wr : World} (f : CA g t l V w wr) (cs : Array Value) : CB g wr.heap.size t l V cs w (wr.alloc (.cells cs 74)) :=
  ⟨f.keep ((Below.refl _ _).alloc (Nat.le_refl _) _), heap_alloc_new _ _, f.just.size, fun k hk => (by have := (f.own.lt k hk).2; omega)⟩
theorem CB.rdr {g C : Nat} {t t' : St} {l : List C2} {V : Value} {cs : Array Value} {w wr w' : World} (f : CB g C t l V cs w wr) (hr : IsRdr w' g t') (j : Just g wr w') : CB g C t' l V cs w w' := by
  have h1 := f.ca.gl
  have h2 := f.cl
  exact ⟨f.ca.rdr hr j, (j.block _ (lt_of_block f.row) (by omega)).trans f.row, h2, f.vc⟩
theorem CB.set {g C : Nat} {t : St} {l : List C2} {V : Value} {cs : Array Value} {w wr : World} (f : CB g C t l V cs w wr) (o : Nat) (v : Value) : CB g C t l V (cs.setIfInBounds o v) w (wr.setCell ⟨C, o, none⟩ v) :=
  ⟨⟨IsRdr.poke f.ca.rd f.row (by decide) (by decide) o v, row_beside f.ca.own (just_cell wr C o v) f.vc, Just.poke f.ca.just C o v f.cl, f.ca.gl⟩, heap_setCell_same wr _ _ _ _ _ f.row, f.cl, f.vc⟩
theorem CA.grown {g : Nat} {t : St} {l : List C2} {x : C2} {V V' : Value} {w wr w' : World} {n : Nat} (f : CA g t l V w wr) (hg : wr.grownBy w' V.ownBlock) (hn : n = (l ++ [x]).length) (ho : w'.ownsRow w.heap.size 74 2 V' n (flatC l ++ celL x)) : CA g t (l ++ [x]) V' w w' := by
  have h1 := f.gl
  have hne : ∀ k, k < w.heap.size → some k ≠ V.ownBlock := fun k hk e => by have := (f.own.lt k e.symm).1; omega
  refine ⟨?_, by rw [← hn, flatC_snoc]; exact ho, ?_, h1⟩
  · obtain ⟨y, hy, hw⟩ := f.rd
    refine ⟨y, (hg.block g (lt_of_block hy) (hne g h1)).trans hy, hw.kept fun k cs hk => hg.block k (lt_of_block hk) fun e => ?_⟩
    rcases f.own.2 with ⟨h, _⟩ | ⟨g', c', cur, h, _, h3, _⟩
    · rw [h] at e; cases e
    · rw [h] at e
      obtain rfl : k = g' := by simpa [Value.ownBlock] using e
      rw [hk] at h3
      simp only [Option.some.injEq, Obj.cells.injEq] at h3
      exact absurd h3.2.1 (by decide)
  · exact ⟨hg.os.trans f.just.os, hg.tape.trans f.just.tape, hg.output.trans f.just.output, Nat.le_trans f.just.size hg.size, fun k hk hkg => (hg.block k (Nat.lt_of_lt_of_le hk f.just.size) (hne k hk)).trans (f.just.block k hk hkg)⟩
def LPost (g : Nat) (t : St) (l : List C2) (w : World) (e : Ending) (w' : World) : Prop := ∃ V, e = .returned V ∧ w'.ownsRow w.heap.size 74 2 V l.length (flatC l) ∧ IsRdr w' g t ∧ Just g w w'
theorem infoCell : (Tryd.prog.info? 74).map (fun i => (i.zero, i.size, i.bytes)) = some (some (.agg #[.int .u32 0, .bool false]), 2, 8) := by kernel_rfl
def CRel (g : Nat) (t0 : St) (n : Nat) (w : World) (v i : Value) (wr : World) : Prop := ∃ k : Nat, k ≤ n ∧ i = .int .i64 k ∧ CA g (ceN t0 k).1 (ceN t0 k).2 v w wr
set_option maxRecDepth 8000 in
set_option maxHeartbeats 3200000 in
theorem cells_any (g : Nat) (t : St) (w : World) (hn : Names w) (h : IsRdr w g t) (ho : Ok t) :
    Calls Tryd.prog 81 #[.pointer (some ⟨g, 0, none⟩)] w (LPost g (clS t) (clV t) w) := by
  obtain ⟨i0, hi, hz0, hz1, hz2⟩ := info_parts infoCell
  have HN := Lib.hid hn
  have HR := Lib.hid h
  have HGL : Hid (g < w.heap.size) := h.lt
  have HP := Lib.hid (place_any g t w h)
  have HU := Lib.hid (u8_any g t w hn h ho)
  have HT : Hid (needS (decide ((numV t 1 : Int) ≤ 16)) (numS t 1) 8 t.p = hdS t) := rfl
  have HOK := Lib.hid (fun i => ok_ce (ok_hd ho) i)
  have hle := u8_le t
  have HS : Hid (clS t = if (hdS t).k = 0 then (ceN (hdS t) (numV t 1)).1 else hdS t) := rfl
  have HV : Hid (clV t = if (hdS t).k = 0 then (ceN (hdS t) (numV t 1)).2 else []) := rfl
  obtain ⟨T1, hT1⟩ : ∃ T1, numS t 1 = T1 := ⟨_, rfl⟩
  obtain ⟨n, hV⟩ : ∃ V, numV t 1 = V := ⟨_, rfl⟩
  obtain ⟨T2, hT2⟩ : ∃ T2, hdS t = T2 := ⟨_, rfl⟩
  obtain ⟨P, hP⟩ : ∃ P, t.p = P := ⟨_, rfl⟩
  obtain ⟨D, hD⟩ : ∃ D, decide ((n : Int) ≤ 16) = D := ⟨_, rfl⟩
  rw [hT1, hV] at HU
  rw [hT1, hV, hT2, hP, hD] at HT
  rw [hT2] at HOK
  rw [hT2, hV] at HS HV
  rw [hV] at hle
  rw [hP] at HP
  rw [HS.out, HV.out]
  clear hn h ho hT1 hV hT2 hP HS HV
  by_cases hk : T2.k = 0
  · rw [if_pos hk, if_pos hk]
    have tk : (T2.k == 0) = true := by simp; exact hk
    have HTK := Lib.hid tk
    clear hk tk
    go_enter Tryd.func81, Tryd.ntmps81
    go_wp2_with (first
      | (go_at_call 20; refine HP.out.mono ?_; rintro e w' ⟨rfl, rfl⟩)
      | (go_at_call 45; refine HU.out.mono ?_; rintro e w1 ⟨rfl, hr1, hj1⟩; have HR1 := Lib.hid hr1; have HJ1 := Lib.hid hj1; clear hr1 hj1; try rw [hD])
      | (go_at_call 44; refine (need_any g _ T1 8 P _ (Rdr.Names.just HN.out HR.out HJ1.out) (by omega) HR1.out).mono ?_; rintro e w2 ⟨rfl, hr2, hj2⟩; rw [HT.out] at hr2 ⊢; rw [HTK.out]; have HR2 := Lib.hid hr2; have HJ2 := Lib.hid (HJ1.out.trans hj2); clear hr2 hj2))
    have hca : CA g (ceN T2 0).1 (ceN T2 0).2 (.slice none 0 0) w w2 := ⟨HR2.out, World.ownsRow_nil _ _ _ _, HJ2.out, HGL.out⟩
    have HCA := Lib.hid hca
    clear hca
    go_loopw [5, 18] (fun v i wr => CRel g T2 n w v i wr) (fun _ i _ => n - (intOf i).toNat)
    case atStart => exact ⟨0, Nat.zero_le _, rfl, HCA.out⟩
    case round =>
      obtain ⟨k, hk, rfl, hf⟩ := hrel
      have HF := Lib.hid hf
      clear hf HCA HR2 HJ2 HR1 HJ1
      by_cases hlt : k < n
      · have HOKk := Lib.hid (HOK.out k)
        have HNX : Hid (ceN T2 (k + 1) = (ceS (ceN T2 k).1, (ceN T2 k).2 ++ [ceV (ceN T2 k).1])) := rfl
        have HLE : Hid ((ceN T2 k).2.length ≤ 255) := by show _ ≤ _; rw [ceN_len]; omega
        obtain ⟨tk, htk⟩ : ∃ x, (ceN T2 k).1 = x := ⟨_, rfl⟩
        obtain ⟨lk, hlk⟩ : ∃ x, (ceN T2 k).2 = x := ⟨_, rfl⟩
        rw [htk] at HOKk
        rw [htk, hlk] at HF HNX
        rw [hlk] at HLE
        have HC0 := Lib.hid (HF.out.cell #[.int .u32 0, .bool false])
        have HNA := Lib.hid (Rdr.Names.just HN.out HR.out HC0.out.ca.just)
        have HFL := Lib.hid (flag_any g tk _ HNA.out HC0.out.ca.rd HOKk.out)
        have HV1 : Hid (ceS tk = numS (flS tk) 4 ∧ ceV tk = ⟨numV (flS tk) 4, flV tk⟩) := ⟨rfl, rfl⟩
        have HOK1 := Lib.hid (ok_fl HOKk.out)
        have hv32 := u32_le (flS tk)
        obtain ⟨t1, ht1⟩ : ∃ x, flS tk = x := ⟨_, rfl⟩
        obtain ⟨b1, hb1⟩ : ∃ x, flV tk = x := ⟨_, rfl⟩
        rw [ht1, hb1] at HFL HV1
        rw [ht1] at HOK1 hv32
        obtain ⟨v1, hv1⟩ : ∃ x, numV t1 4 = x := ⟨_, rfl⟩
        obtain ⟨t2, ht2⟩ : ∃ x, numS t1 4 = x := ⟨_, rfl⟩
        rw [hv1, ht2] at HV1
        have HN1 := Lib.hid hv1
        have HN2 := Lib.hid ht2
        clear htk hlk ht1 hb1 hv1 ht2 hv32 HOKk
        have hkn : (k : Int) < n := by omega
        have hk0 : (0 : Int) ≤ k := by omega
        go_wp2_with fail
        refine HFL.out.mono ?_
        rintro e w2 ⟨rfl, hr2, hj2⟩
        have f2 := HC0.out.rdr hr2 hj2
        have HF3 := Lib.hid (f2.set 1 (.bool b1))
        have hcz := cell_of_row w2 _ 1 _ _ _ f2.row
        have hzz := frozen_of_row w2 _ 1 _ _ f2.row
        simp only [List.getElem?_toArray, List.getElem?_cons_zero, List.getElem?_cons_succ] at hcz
        simp only [List.setIfInBounds_toArray, List.set_cons_zero, List.set_cons_succ] at HF3
        clear f2 hr2 hj2
        go_wp2_with fail
        have HNA3 := Lib.hid (Rdr.Names.just HN.out HR.out HF3.out.ca.just)
        have HU3 := Lib.hid (u32_any g t1 _ HNA3.out HF3.out.ca.rd HOK1.out)
        rw [HN1.out, HN2.out] at HU3
        clear hcz hzz
        refine HU3.out.mono ?_
        rintro e w4 ⟨rfl, hr4, hj4⟩
        have f4 := HF3.out.rdr hr4 hj4
        have HF5 := Lib.hid (f4.set 0 (.int .u32 v1))
        have hcz := cell_of_row w4 _ 0 _ _ _ f4.row
        have hzz := frozen_of_row w4 _ 0 _ _ f4.row
        simp only [List.getElem?_toArray, List.getElem?_cons_zero, List.getElem?_cons_succ] at hcz
        simp only [List.setIfInBounds_toArray, List.set_cons_zero, List.set_cons_succ] at HF5
        have hd0 := cell_of_row _ _ 0 _ _ _ HF5.out.row
        have hd1 := cell_of_row _ _ 1 _ _ _ HF5.out.row
        simp only [List.getElem?_toArray, List.getElem?_cons_zero, List.getElem?_cons_succ] at hd0 hd1
        clear f4 hr4 hj4
        go_wp2_with (at_builtin; refine wpList_append_own _ rfl _ _ 64 rfl w.heap.size 74 i0 (.agg #[.int .u32 0, .bool false]) 2 8 Tryd.underlying64 hi hz0 hz1 hz2 rfl (by decide) _ lk.length _ rfl (HF5.out.ca.own.alloc _) ⟨w4.heap.size, 0, none⟩ 1 1 [.int .u32 v1, .bool b1] rfl rfl ?c1 ?c2 ?c3 ?c4 ?c5 ?_)
        case c1 =>
          intro j u hj
          have hrow := heap_alloc_new (w4.setCell ⟨wr.heap.size, 0, none⟩ (.int .u32 v1)) (.cells #[.int .u32 v1, .bool b1] 74)
          rw [show (w4.setCell ⟨wr.heap.size, 0, none⟩ (.int .u32 v1)).heap.size = w4.heap.size by simp] at hrow
          have e : (Addr.mk w4.heap.size 0 none).add j = ⟨w4.heap.size, j, none⟩ := by cases j <;> simp [Addr.add]
          rw [e, cell_of_row _ _ _ _ _ _ hrow, ← hj]
          simp
        case c2 => intro u hu; simp at hu; rcases hu with rfl | rfl <;> rfl
        case c3 => have := HLE.out; unfold maxLen; omega
        case c4 => have := HLE.out; omega
        case c5 => have := HF5.out.ca.just.size; simp at this ⊢; omega
        intro v' w7 ho7 hg7 _
        have HF7 := Lib.hid ((HF5.out.ca.keep ((Below.refl _ _).alloc (Nat.le_refl _) (.cells #[.int .u32 v1, .bool b1] 74))).grown (x := ⟨v1, b1⟩) hg7 (by simp) ho7)
        clear ho7 hg7 hcz hzz hd0 hd1
        go_wp2
        go_roundw
        case rel => exact ⟨k + 1, by omega, by go_num, by rw [HNX.out, HV1.out.1, HV1.out.2]; exact HF7.out⟩
        case measure => simp [intOf]; omega
      · obtain rfl : k = n := by omega
        go_wp2
        go_ret
        exact ⟨_, rfl, HF.out.own, HF.out.rd, HF.out.just⟩
  · rw [if_neg hk, if_neg hk]
    have tk : (T2.k == 0) = false := by simp; exact hk
    have HTK := Lib.hid tk
    clear hk tk
    go_enter Tryd.func81, Tryd.ntmps81
    go_wp2_with (first
      | (go_at_call 20; refine HP.out.mono ?_; rintro e w' ⟨rfl, rfl⟩)
      | (go_at_call 45; refine HU.out.mono ?_; rintro e w1 ⟨rfl, hr1, hj1⟩; have HR1 := Lib.hid hr1; have HJ1 := Lib.hid hj1; clear hr1 hj1; try rw [hD])
      | (go_at_call 44; refine (need_any g _ T1 8 P _ (Rdr.Names.just HN.out HR.out HJ1.out) (by omega) HR1.out).mono ?_; rintro e w2 ⟨rfl, hr2, hj2⟩; rw [HT.out] at hr2 ⊢; rw [HTK.out]; have HR2 := Lib.hid hr2; have HJ2 := Lib.hid (HJ1.out.trans hj2); clear hr2 hj2))
    go_ret
    exact ⟨_, rfl, World.ownsRow_nil _ _ _ _, HR2.out, HJ2.out⟩
end Go.Proofs.YteadednglodgpaaDoor.Prt

namespace Go.Proofs.YteadednglodgpaaDoor.Prt

open Go.RowKit Go.PlainAid Go.Proofs.YteadednglodgpaaDoor.Oct Go.Proofs.YteadednglodgpaaDoor.Flt Go.Proofs.YteadednglodgpaaDoor.Rdr Go.Proofs.YteadednglodgpaaDoor.Nam

open Go.Proofs.YteadednglodgpaaDoor.Act (row_beside row_base)

set_option linter.unusedVariables false

set_option linter.unusedSimpArgs false

def o2S (t : St) (last : Int) : St := needS (decide (last < (numV t 1 : Int))) (numS t 1) 9 t.p
def o3S (t : St) (last : Int) : St := flS (o2S t last)
def o4S (t : St) (last : Int) : St := nmS (o3S t last)
def onS (t : St) (last : Int) : St := clS (o4S t last)
def onV (t : St) (last : Int) : PT := ⟨numV t 1, nmV (o3S t last), flV (o2S t last), clV (o4S t last)⟩
theorem ok_nm {t : St} (h : Ok t) : Ok (nmS t) := by
  have h1 := ok_num h 1
  have h2 := ok_txt h1 (numV t 1 : Nat)
  unfold nmS
  repeat' split
  all_goals first | exact h | exact h1 | exact h2 | exact ok_fail h _ _ | exact ok_fail h1 _ _ | exact ok_fail h2 _ _
theorem ok_o2 {t : St} (h : Ok t) (last : Int) : Ok (o2S t last) := ok_need (ok_num h _) _ _ _
theorem ok_o3 {t : St} (h : Ok t) (last : Int) : Ok (o3S t last) := ok_fl (ok_o2 h last)
theorem ok_o4 {t : St} (h : Ok t) (last : Int) : Ok (o4S t last) := ok_nm (ok_o3 h last)
theorem ok_on {t : St} (h : Ok t) (last : Int) : Ok (onS t last) := ok_cl (ok_o4 h last)
def ptZ : Array Value := #[.int .i64 0, .string ⟨#[]⟩, .bool false, .slice none 0 0]
/-- Within one: the reader, the result's block, the partition's block. -/
structure PB (g : Nat) (t : St) (cs : Array Value) (w wr : World) : Prop where
  rd : IsRdr wr g t
  res : wr.heap[w.heap.size]? = some (.cells ptZ 66 (0, 0))
  row : wr.heap[w.heap.size + 1]? = some (.cells cs 66 (0, 0))
  just : Just g w wr
  gl : g < w.heap.size
theorem PB.rdr {g : Nat} {t t' : St} {cs : Array Value} {w wr w' : World} (f : PB g t cs w wr) (hr : IsRdr w' g t') (j : Just g wr w') : PB g t' cs w w' := by
  have h1 := f.gl
  exact ⟨hr, (j.block _ (lt_of_block f.res) (by omega)).trans f.res, (j.block _ (lt_of_block f.row) (by omega)).trans f.row, f.just.trans j, h1⟩
theorem PB.set {g : Nat} {t : St} {cs : Array Value} {w wr : World} (f : PB g t cs w wr) (o : Nat) (v : Value) : PB g t (cs.setIfInBounds o v) w (wr.setCell ⟨w.heap.size + 1, o, none⟩ v) :=
  ⟨IsRdr.poke f.rd f.row (by decide) (by decide) o v, (heap_setCell_other wr _ _ v (by show w.heap.size ≠ w.heap.size + 1; omega)).trans f.res, heap_setCell_same wr _ _ _ _ _ f.row, Just.poke f.just _ o v (by omega), f.gl⟩
theorem PB.facts {g : Nat} {t : St} {cs : Array Value} {w wr : World} (f : PB g t cs w wr) (o : Nat) : wr.cell? ⟨w.heap.size + 1, o, none⟩ = cs[o]? ∧ wr.frozen? ⟨w.heap.size + 1, o, none⟩ = false := ⟨cell_of_row wr _ _ _ _ _ f.row, frozen_of_row wr _ o _ _ f.row⟩
def OPost1 (g : Nat) (t : St) (x : PT) (w : World) (e : Ending) (w' : World) : Prop := ∃ V, e = .returned (.agg #[.int .i64 x.id, .string x.nm, .bool x.may, V]) ∧ w'.ownsRow w.heap.size 74 2 V x.cs.length (flatC x.cs) ∧ IsRdr w' g t ∧ Just g w w'
theorem size_pt : (Tryd.prog.info? 66).map (·.size) = some 4 := by kernel_rfl
theorem just_row (w : World) (c : Nat) (cs : Array Value) : Just c w (w.setRow c cs) := ⟨rfl, rfl, rfl, by simp, fun k hk hne => setRow_other _ _ _ _ hne⟩
set_option maxRecDepth 8000 in
set_option maxHeartbeats 3200000 in
theorem one_any (g : Nat) (t : St) (last : Int) (w : World) (hn : Names w) (h : IsRdr w g t) (ho : Ok t) :
    Calls Tryd.prog 57 #[.pointer (some ⟨g, 0, none⟩), .int .i64 last] w (OPost1 g (onS t last) (onV t last) w) := by
  have HN := Lib.hid hn
  have HR := Lib.hid h
  have HGL : Hid (g < w.heap.size) := h.lt
  have HO := Lib.hid ho
  have HO2 := Lib.hid (ok_o2 ho last)
  have HO3 := Lib.hid (ok_o3 ho last)
  have HO4 := Lib.hid (ok_o4 ho last)
  have HT2 : Hid (needS (decide (last < (numV t 1 : Int))) (numS t 1) 9 t.p = o2S t last) := rfl
  have HT3 : Hid (flS (o2S t last) = o3S t last) := rfl
  have HT4 : Hid (nmS (o3S t last) = o4S t last) := rfl
  have HT5 : Hid (clS (o4S t last) = onS t last) := rfl
  have HV : Hid (onV t last = ⟨numV t 1, nmV (o3S t last), flV (o2S t last), clV (o4S t last)⟩) := rfl
  have hle := u8_le t
  obtain ⟨T2, hT2⟩ : ∃ x, o2S t last = x := ⟨_, rfl⟩
  obtain ⟨T3, hT3⟩ : ∃ x, o3S t last = x := ⟨_, rfl⟩
  obtain ⟨T4, hT4⟩ : ∃ x, o4S t last = x := ⟨_, rfl⟩
  obtain ⟨T5, hT5⟩ : ∃ x, onS t last = x := ⟨_, rfl⟩
  obtain ⟨X, hX⟩ : ∃ x, onV t last = x := ⟨_, rfl⟩
  rw [hT2] at HT2 HT3 HV HO2
  rw [hT3] at HT3 HT4 HV HO3
  rw [hT4] at HT4 HT5 HV HO4
  rw [hT5] at HT5
  rw [hX] at HV
  rw [hT5, hX]
  obtain ⟨T1, hT1⟩ : ∃ x, numS t 1 = x := ⟨_, rfl⟩
  obtain ⟨n, hV⟩ : ∃ x, numV t 1 = x := ⟨_, rfl⟩
  obtain ⟨P, hP⟩ : ∃ x, t.p = x := ⟨_, rfl⟩
  obtain ⟨nm, hnm⟩ : ∃ x, nmV T3 = x := ⟨_, rfl⟩
  obtain ⟨may, hmay⟩ : ∃ x, flV T2 = x := ⟨_, rfl⟩
  obtain ⟨cs, hcs⟩ : ∃ x, clV T4 = x := ⟨_, rfl⟩
  rw [hnm, hmay, hcs, hV] at HV
  obtain ⟨D, hD⟩ : ∃ x, decide (last < (n : Int)) = x := ⟨_, rfl⟩
  rw [hT1, hP, hV, hD] at HT2
  have HF0 : Hid (PB g t ptZ w ((w.alloc (.cells ptZ 66)).alloc (.cells ptZ 66))) := by
    have hb := two_below w (.cells ptZ 66) (.cells ptZ 66)
    exact ⟨h.kept hb, (heap_alloc_old _ _ (by simp)).trans (heap_alloc_new _ _), Hdr.second_new _ _ _, Just.of_below hb, h.lt⟩
  have HNM : Hid (∀ W, Just g w W → Names W) := fun W j => Rdr.Names.just HN.out HR.out j
  have HP0 := Lib.hid (place_any g t _ HF0.out.rd)
  have HU0 := Lib.hid (u8_any g t _ (HNM.out _ HF0.out.just) HF0.out.rd HO.out)
  rw [hP] at HP0
  rw [hT1, hV] at HU0
  have HMAY := Lib.hid hmay
  have HNMV := Lib.hid hnm
  have HCSV := Lib.hid hcs
  have HSIZ := Lib.hid size_pt
  unfold ptZ at HF0 HP0 HU0
  clear hn h ho hT2 hT3 hT4 hT5 hX hT1 hV hP hnm hmay hcs
  go_enter Tryd.func57, Tryd.ntmps57
  go_wp2_with (go_at_call 20; refine HP0.out.mono ?_; rintro e w' ⟨rfl, rfl⟩)
  refine HU0.out.mono ?_
  rintro e w1 ⟨rfl, hr1, hj1⟩
  have f1 := HF0.out.rdr hr1 hj1
  obtain ⟨c1, z1⟩ := f1.facts 0
  have HF1 := Lib.hid (f1.set 0 (.int .i64 n))
  have d1 := (HF1.out.facts 0).1
  simp only [List.setIfInBounds_toArray, List.set_cons_zero, List.set_cons_succ, List.getElem?_toArray, List.getElem?_cons_zero, List.getElem?_cons_succ] at HF1 c1 d1
  clear hr1 hj1 f1 HU0 HP0
  cases D
  all_goals
    go_wp2_with fail
    refine (need_any g _ T1 9 P _ (HNM.out _ HF1.out.just) (by omega) HF1.out.rd).mono ?_
    rintro e w2 ⟨rfl, hr2, hj2⟩
    rw [HT2.out] at hr2
    have HF2 := Lib.hid (HF1.out.rdr hr2 hj2)
    clear hr2 hj2 c1 z1 d1
    have HFL := Lib.hid (flag_any g T2 _ (HNM.out _ HF2.out.just) HF2.out.rd HO2.out)
    rw [HMAY.out, HT3.out] at HFL
    go_wp2_with fail
    refine HFL.out.mono ?_
    rintro e w3 ⟨rfl, hr3, hj3⟩
    have f3 := HF2.out.rdr hr3 hj3
    obtain ⟨c3, z3⟩ := f3.facts 2
    have HF3 := Lib.hid (f3.set 2 (.bool may))
    simp only [List.setIfInBounds_toArray, List.set_cons_zero, List.set_cons_succ, List.getElem?_toArray, List.getElem?_cons_zero, List.getElem?_cons_succ] at HF3 c3
    clear hr3 hj3 f3 HFL
    have HGE := Lib.hid (get_any g T3 _ (HNM.out _ HF3.out.just) HF3.out.rd HO3.out)
    rw [HNMV.out, HT4.out] at HGE
    go_wp2_with fail
    refine HGE.out.mono ?_
    rintro e w4 ⟨rfl, hr4, hj4⟩
    have f4 := HF3.out.rdr hr4 hj4
    obtain ⟨c4, z4⟩ := f4.facts 1
    have HF4 := Lib.hid (f4.set 1 (.string nm))
    simp only [List.setIfInBounds_toArray, List.set_cons_zero, List.set_cons_succ, List.getElem?_toArray, List.getElem?_cons_zero, List.getElem?_cons_succ] at HF4 c4
    clear hr4 hj4 f4 HGE c3 z3
    have HCE := Lib.hid (cells_any g T4 _ (HNM.out _ HF4.out.just) HF4.out.rd HO4.out)
    rw [HCSV.out, HT5.out] at HCE
    go_wp2_with fail
    refine HCE.out.mono ?_
    rintro e w5 ⟨V, rfl, ho5, hr5, hj5⟩
    have f5 := HF4.out.rdr hr5 hj5
    obtain ⟨c5, z5⟩ := f5.facts 3
    have hlt := lt_of_block HF4.out.row
    have hvb : ∀ k, V.ownBlock = some k → w.heap.size + 1 < k := fun k hk => by
      have h1 := (ho5.lt k hk).1
      exact Nat.lt_of_lt_of_le hlt h1
    obtain ⟨A, c, rfl⟩ : ∃ A c, V = .slice A cs.length c := by
      rcases ho5.2 with ⟨rfl, h0⟩ | ⟨g', c', cur, rfl, _⟩
      · exact ⟨none, 0, by rw [h0]⟩
      · exact ⟨_, _, rfl⟩
    have HF5 := Lib.hid (f5.set 3 (.slice A cs.length c))
    have HO5 := Lib.hid (row_beside (row_base ho5 (show w.heap.size ≤ _ by omega)) (just_cell w5 (w.heap.size + 1) 3 (.slice A cs.length c)) (fun k hk => by have := hvb k hk; omega))
    have HVB := Lib.hid hvb
    obtain ⟨LC, hLC⟩ : ∃ LC, cs.length = LC := ⟨_, rfl⟩
    have HLC := Lib.hid hLC
    simp only [List.setIfInBounds_toArray, List.set_cons_zero, List.set_cons_succ, List.getElem?_toArray, List.getElem?_cons_zero, List.getElem?_cons_succ] at HF5 c5
    rw [hLC] at HF5 HO5 HVB
    rw [hLC]
    have d0 := (HF5.out.facts 0).1
    have d1 := (HF5.out.facts 1).1
    have d2 := (HF5.out.facts 2).1
    have d3 := (HF5.out.facts 3).1
    simp only [List.getElem?_toArray, List.getElem?_cons_zero, List.getElem?_cons_succ] at d0 d1 d2 d3
    have HRES := Lib.hid HF5.out.res
    have HONE : Hid ((#[Value.int .i64 n, .string nm, .bool may, .slice A LC c] : Array Value).all (·.oneCell') = true) := by show _ = _; simp [Value.oneCell']
    unfold ptZ at HRES
    clear hr5 hj5 f5 HCE c4 z4 ho5 hvb hlt hLC
    go_wp2_with ((with_reducible show wpList _ _ _ _ _ _); refine wpList_store_row rfl 66 (.tmp 4) (.tmp 28) rfl w.heap.size #[.int .i64 n, .string nm, .bool may, .slice A LC c] rfl rfl 66 #[.int .i64 0, .string ⟨#[]⟩, .bool false, .slice none 0 0] HRES.out (by rw [HSIZ.out]; rfl) rfl HONE.out ?_)
    refine bodyPost_ret (v := .agg #[.int .i64 n, .string nm, .bool may, .slice A LC c]) (results_cell_row (by rfl) _ _ w.heap.size 66 _ (0, 0) _ rfl (setRow_heap _ _ _ _ _ _ HRES.out) Tryd.underlying66 rfl (by rw [HSIZ.out]; rfl)) rfl ?_
    refine ⟨.slice A LC c, by rw [HV.out], ?_, IsRdr.pokeRow HF5.out.rd HRES.out (by decide) (by decide) _, Just.pokeRow HF5.out.just _ _ (Nat.le_refl _)⟩
    rw [HV.out]
    dsimp only
    rw [HLC.out]
    exact row_beside HO5.out (just_row _ _ _) (fun k hk => by have := HVB.out k hk; omega)
end Go.Proofs.YteadednglodgpaaDoor.Prt

namespace Go.Proofs.YteadednglodgpaaDoor.Prt

open Go.RowKit Go.PlainAid Go.Proofs.YteadednglodgpaaDoor.Oct Go.Proofs.YteadednglodgpaaDoor.Flt Go.Proofs.YteadednglodgpaaDoor.Rdr Go.Proofs.YteadednglodgpaaDoor.Nam

open Go.Proofs.YteadednglodgpaaDoor.Act (row_beside row_base)

open Go.Proofs.YteadednglodgpaaDoor.Hdr (iface_of_wrong)

set_option linter.unusedVariables false

set_option linter.unusedSimpArgs false

/-- The reader, and what is read, behind so many rounds. -/
def itP (t : St) : Nat → St × List PT
  | 0 => (t, [])
  | i + 1 => if (itP t i).1.k = 0 then (onS (itP t i).1 (lastP (itP t i).2), (itP t i).2 ++ [onV (itP t i).1 (lastP (itP t i).2)]) else itP t i
theorem itP_stay (t : St) (i : Nat) (h : (itP t i).1.k ≠ 0) : ∀ j, itP t (i + j) = itP t i
  | 0 => rfl
  | j + 1 => by
    have := itP_stay t i h j
    rw [show i + (j + 1) = (i + j) + 1 by omega, itP, this, if_neg h]
theorem itP_len (t : St) : ∀ i, (itP t i).2.length ≤ i
  | 0 => Nat.le_refl _
  | i + 1 => by
    have := itP_len t i
    rw [itP]; split <;> (simp; try omega)
theorem ok_itP {t : St} (h : Ok t) : ∀ i, Ok (itP t i).1
  | 0 => h
  | i + 1 => by
    rw [itP]; split
    · exact ok_on (ok_itP h i) _
    · exact ok_itP h i
def flatQ (L : List (PT × Value)) : List Value := L.flatMap fun q => [.int .i64 q.1.id, .string q.1.nm, .bool q.1.may, q.2]
theorem flatQ_snoc (L : List (PT × Value)) (q : PT × Value) : flatQ (L ++ [q]) = flatQ L ++ [.int .i64 q.1.id, .string q.1.nm, .bool q.1.may, q.2] := by simp [flatQ]
theorem flatQ_get (L : List (PT × Value)) : ∀ (i : Nat) (q : PT × Value) (j : Nat), L[i]? = some q → j < 4 → (flatQ L)[i * 4 + j]? = ([.int .i64 q.1.id, .string q.1.nm, .bool q.1.may, q.2] : List Value)[j]? := by
  induction L with
  | nil => intro i x j h; simp at h
  | cons y l ih =>
    intro i x j h hj
    have e : flatQ (y :: l) = [.int .i64 y.1.id, .string y.1.nm, .bool y.1.may, y.2] ++ flatQ l := rfl
    cases i with
    | zero =>
      obtain rfl : y = x := by simpa using h
      rw [e, Nat.zero_mul, Nat.zero_add, List.getElem?_append_left (by simp; omega)]
    | succ i =>
      have hx : l[i]? = some x := by simpa using h
      rw [e, List.getElem?_append_right (by simp; omega), ← ih i x j hx hj]
      congr 1
      simp; omega
/-- Within Read: the reader, the row so far and the rows of its cells. -/
structure RP (g : Nat) (t : St) (L : List (PT × Value)) (V : Value) (w wr : World) : Prop where
  rd : IsRdr wr g t
  own : wr.ownsRow w.heap.size 66 4 V L.length (flatQ L)
  sub : ∀ q ∈ L, wr.ownsRow w.heap.size 74 2 q.2 q.1.cs.length (flatC q.1.cs)
  just : Just g w wr
  gl : g < w.heap.size
theorem RP.rdr {g : Nat} {t t' : St} {L : List (PT × Value)} {V : Value} {w wr w' : World} (f : RP g t L V w wr) (hr : IsRdr w' g t') (j : Just g wr w') : RP g t' L V w w' := by
  have h1 := f.gl
  exact ⟨hr, row_beside f.own j fun k hk => (by have := (f.own.lt k hk).1; omega), fun q hq => row_beside (f.sub q hq) j fun k hk => (by have := ((f.sub q hq).lt k hk).1; omega), f.just.trans j, h1⟩
theorem RP.keep {g : Nat} {t : St} {L : List (PT × Value)} {V : Value} {w wr w' : World} (f : RP g t L V w wr) (b : Below wr.heap.size wr w') : RP g t L V w w' := f.rdr (f.rd.kept b) (Just.of_below b)
theorem own_block {w : World} {B n : Nat} {T : TypeId} {s : Nat} {v : Value} {xs : List Value} (h : w.ownsRow B T s v n xs) {k : Nat} (hk : v.ownBlock = some k) : ∃ cur, w.heap[k]? = some (.cells cur T (0, 0)) := by
  rcases h.2 with ⟨rfl, _⟩ | ⟨g, c, cur, rfl, _, h3, _⟩
  · cases hk
  · obtain rfl : g = k := by simpa [Value.ownBlock] using hk
    exact ⟨cur, h3⟩
theorem RP.grown {g : Nat} {t : St} {L : List (PT × Value)} {q : PT × Value} {V V' : Value} {w wr w' : World} {n : Nat} (f : RP g t L V w wr) (hq : wr.ownsRow w.heap.size 74 2 q.2 q.1.cs.length (flatC q.1.cs)) (hg : wr.grownBy w' V.ownBlock) (hn : n = (L ++ [q]).length)
    (ho : w'.ownsRow w.heap.size 66 4 V' n (flatQ L ++ [.int .i64 q.1.id, .string q.1.nm, .bool q.1.may, q.2])) : RP g t (L ++ [q]) V' w w' := by
  have h1 := f.gl
  have hne : ∀ k, k < w.heap.size → some k ≠ V.ownBlock := fun k hk e => by have := (f.own.lt k e.symm).1; omega
  have hcell : ∀ {u : Value} {m : Nat} {ys : List Value}, wr.ownsRow w.heap.size 74 2 u m ys → w'.ownsRow w.heap.size 74 2 u m ys := fun {u m ys} h => h.kept hg (by
    cases hu : u.ownBlock with
    | none => exact .inl rfl
    | some k =>
      refine .inr fun e => ?_
      obtain ⟨c1, e1⟩ := own_block h hu
      obtain ⟨c2, e2⟩ := own_block f.own e.symm
      rw [e1] at e2
      simp only [Option.some.injEq, Obj.cells.injEq] at e2
      exact absurd e2.2.1 (by decide))
  refine ⟨?_, by rw [← hn, flatQ_snoc]; exact ho, fun p hp => ?_, ?_, h1⟩
  · obtain ⟨y, hy, hw⟩ := f.rd
    refine ⟨y, (hg.block g (lt_of_block hy) (hne g h1)).trans hy, hw.kept fun k cs hk => hg.block k (lt_of_block hk) fun e => ?_⟩
    obtain ⟨c2, e2⟩ := own_block f.own e.symm
    rw [hk] at e2
    simp only [Option.some.injEq, Obj.cells.injEq] at e2
    exact absurd e2.2.1 (by decide)
  · rcases List.mem_append.1 hp with h | h
    · exact hcell (f.sub p h)
    · obtain rfl : p = q := by simpa using h
      exact hcell hq
  · exact ⟨hg.os.trans f.just.os, hg.tape.trans f.just.tape, hg.output.trans f.just.output, Nat.le_trans f.just.size hg.size, fun k hk hkg => (hg.block k (Nat.lt_of_lt_of_le hk f.just.size) (hne k hk)).trans (f.just.block k hk hkg)⟩
def rdP (t : St) (n : Nat) : St := (itP (secS t 2) n).1
def rdL (t : St) (n : Nat) : List PT := (itP (secS t 2) n).2
def KPost (g : Nat) (t : St) (l : List PT) (w : World) (e : Ending) (w' : World) : Prop :=
  (t.k ≠ 0 ∧ ∃ x, e = .returned (.tuple #[.slice none 0 0, x]) ∧ Wrong w' x t.k t.fs t.fa ∧ IsRdr w' g t ∧ Just g w w') ∨ (t.k = 0 ∧ ∃ V L, e = .returned (.tuple #[V, .nilIface]) ∧ L.map Prod.fst = l ∧ RP g t L V w w')
def KRel (g : Nat) (t : St) (n : Nat) (w : World) (v last i : Value) (wr : World) : Prop :=
  ∃ (k : Nat) (L : List (PT × Value)), k ≤ n ∧ i = .int .i64 k ∧ last = .int .i64 (lastP (itP t k).2) ∧ L.map Prod.fst = (itP t k).2 ∧ RP g (itP t k).1 L v w wr
theorem infoPart : (Tryd.prog.info? 66).map (fun i => (i.zero, i.size, i.bytes)) = some (some (.agg #[.int .i64 0, .string ⟨#[]⟩, .bool false, .slice none 0 0]), 4, 56) := by kernel_rfl
set_option maxRecDepth 8000 in
set_option maxHeartbeats 3200000 in
theorem pread_any (g : Nat) (t : St) (n : Nat) (w : World) (hn : Names w) (h : IsRdr w g t) (ho : Ok t) (hl : n ≤ 1000) :
    Calls Tryd.prog 26 #[.pointer (some ⟨g, 0, none⟩), .int .i64 n] w (KPost g (rdP t n) (rdL t n) w) := by
  obtain ⟨i0, hi, hz0, hz1, hz2⟩ := info_parts infoPart
  have HN := Lib.hid hn
  have HR := Lib.hid h
  have HGL : Hid (g < w.heap.size) := h.lt
  have HEN := Lib.hid (enter_any g t 2 w h)
  have ho2 : Ok (secS t 2) := ho
  have HP : Hid (rdP t n = (itP (secS t 2) n).1) := rfl
  have HL : Hid (rdL t n = (itP (secS t 2) n).2) := rfl
  obtain ⟨T, hT⟩ : ∃ x, secS t 2 = x := ⟨_, rfl⟩
  rw [hT] at HEN HP HL ho2
  have HOK := Lib.hid (fun i => ok_itP ho2 i)
  have HSIZ := Lib.hid size_pt
  rw [HP.out, HL.out]
  clear hT HP HL ho2 hn h ho
  go_enter Tryd.func26, Tryd.ntmps26
  go_wp2_with fail
  refine HEN.out.mono ?_
  rintro e w1 ⟨rfl, hr1, hj1⟩
  have hrp : RP g (itP T 0).1 [] (.slice none 0 0) w w1 := ⟨hr1, World.ownsRow_nil _ _ _ _, fun q hq => (by simp at hq), hj1, HGL.out⟩
  have HRP := Lib.hid hrp
  clear hrp hr1 hj1 HEN
  go_wp2_with fail
  go_loopw [6, 7, 8] (fun v last i wr => KRel g T n w v last i wr) (fun _ _ i _ => n - (intOf i).toNat)
  case atStart => exact ⟨0, [], Nat.zero_le _, rfl, rfl, rfl, HRP.out⟩
  case round =>
    obtain ⟨k, L, hk, rfl, rfl, hL, hf⟩ := hrel
    have HF := Lib.hid hf
    clear hf HRP
    have HLE : Hid (L.length ≤ k) := by show _ ≤ _; rw [← List.length_map (f := Prod.fst), hL]; exact itP_len T k
    by_cases hlt : k < n
    · have hkn : (k : Int) < n := by omega
      by_cases hk0 : (itP T k).1.k = 0
      · have HE := Lib.hid (err_ok g _ _ HF.out.rd hk0)
        have HNX : Hid (itP T (k + 1) = (onS (itP T k).1 (lastP (itP T k).2), (itP T k).2 ++ [onV (itP T k).1 (lastP (itP T k).2)])) := by show _ = _; rw [itP, if_pos hk0]
        have HO1 := Lib.hid (one_any g _ (lastP (itP T k).2) _ (Rdr.Names.just HN.out HR.out HF.out.just) HF.out.rd (HOK.out k))
        have HLS := Lib.hid hL
        obtain ⟨tk, htk⟩ : ∃ x, (itP T k).1 = x := ⟨_, rfl⟩
        obtain ⟨lk, hlk⟩ : ∃ x, (itP T k).2 = x := ⟨_, rfl⟩
        rw [htk] at HF
        rw [htk, hlk] at HNX HO1
        rw [hlk] at HLS ⊢
        obtain ⟨la, hla⟩ : ∃ x, lastP lk = x := ⟨_, rfl⟩
        rw [hla] at HNX HO1 ⊢
        obtain ⟨t1, ht1⟩ : ∃ x, onS tk la = x := ⟨_, rfl⟩
        obtain ⟨x, hx⟩ : ∃ x, onV tk la = x := ⟨_, rfl⟩
        rw [ht1, hx] at HNX HO1
        clear hL hk0 htk hlk hla ht1 hx
        go_wp2_with (first
          | (go_at_call 49; refine HE.out.mono ?_; rintro e w' ⟨rfl, rfl⟩))
        refine HO1.out.mono ?_
        rintro e w2 ⟨V2, rfl, ho2, hr2, hj2⟩
        have f2 := HF.out.rdr hr2 hj2
        have ho2' := row_base ho2 HF.out.just.size
        obtain ⟨A, c, rfl⟩ : ∃ A c, V2 = .slice A x.cs.length c := by
          rcases ho2.2 with ⟨rfl, h0⟩ | ⟨g', c', cur, rfl, _⟩
          · exact ⟨none, 0, by rw [h0]⟩
          · exact ⟨_, _, rfl⟩
        obtain ⟨LC, hLC⟩ : ∃ LC, x.cs.length = LC := ⟨_, rfl⟩
        have HLC := Lib.hid hLC
        rw [hLC] at ho2'
        rw [hLC]
        have hb8 : Below w2.heap.size w2 ((w2.alloc (.cells #[.int .i64 0, .string ⟨#[]⟩, .bool false, .slice none 0 0] 66)).setRow w2.heap.size #[.int .i64 x.id, .string x.nm, .bool x.may, .slice A LC c]) :=
          Hdr.below_set2 ((Below.refl _ _).alloc (Nat.le_refl _) _) (Nat.le_refl _)
        have f8 := f2.keep hb8
        have ho8 := row_beside ho2' (Just.of_below (g := w2.heap.size) hb8) fun k hk => (by have := (ho2'.lt k hk).2; omega)
        have hc8 := setRow_heap _ _ _ #[.int .i64 x.id, .string x.nm, .bool x.may, .slice A LC c] _ _ (heap_alloc_new w2 (.cells #[.int .i64 0, .string ⟨#[]⟩, .bool false, .slice none 0 0] 66))
        have HONE : Hid ((#[Value.int .i64 x.id, .string x.nm, .bool x.may, .slice A LC c] : Array Value).all (·.oneCell') = true) := by show _ = _; simp [Value.oneCell']
        have HROW0 := Lib.hid (heap_alloc_new w2 (.cells #[.int .i64 0, .string ⟨#[]⟩, .bool false, .slice none 0 0] 66))
        obtain ⟨X, hX⟩ : ∃ X, (w2.alloc (.cells #[.int .i64 0, .string ⟨#[]⟩, .bool false, .slice none 0 0] 66)).setRow w2.heap.size #[.int .i64 x.id, .string x.nm, .bool x.may, .slice A LC c] = X := ⟨_, rfl⟩
        rw [hX] at f8 ho8 hc8
        obtain ⟨C, hC⟩ : ∃ C, w2.heap.size = C := ⟨_, rfl⟩
        rw [hC] at hc8
        have HF8 := Lib.hid f8
        have HO8 := Lib.hid ho8
        have HC8 := Lib.hid hc8
        have HRX := Lib.hid (f8.keep ((Below.refl _ _).alloc (Nat.le_refl _) (.cells #[.int .i64 x.id, .string x.nm, .bool x.may, .slice A LC c] 66)))
        have hk0 := cell_of_row X _ 0 _ _ _ hc8
        simp only [List.getElem?_toArray, List.getElem?_cons_zero] at hk0
        have HX := Lib.hid hX
        have HC := Lib.hid hC
        clear f8 ho8 hc8 hX hC
        clear hr2 hj2 f2 ho2 ho2' hb8 hLC HO1 HE
        go_wp2_with (first
          | ((with_reducible show wpList _ _ _ _ _ _); refine wpList_store_row rfl 66 (.tmp 9) (.tmp 25) rfl w2.heap.size #[.int .i64 x.id, .string x.nm, .bool x.may, .slice A LC c] rfl rfl 66 #[.int .i64 0, .string ⟨#[]⟩, .bool false, .slice none 0 0] HROW0.out (by rw [HSIZ.out]; rfl) rfl HONE.out ?_; rw [HX.out, HC.out])
          | ((with_reducible show wpList _ _ _ _ _ _); refine wpList_load_row rfl 66 (.tmp 9) rfl C rfl 66 _ (0, 0) _ HC8.out Tryd.underlying66 rfl (by rw [HSIZ.out]; rfl) ?_)
          | (at_builtin; refine wpList_append_own _ rfl _ _ 55 rfl w.heap.size 66 i0 (.agg #[.int .i64 0, .string ⟨#[]⟩, .bool false, .slice none 0 0]) 4 56 Tryd.underlying55 hi hz0 hz1 hz2 rfl (by decide) _ L.length _ rfl HRX.out.own ⟨X.heap.size, 0, none⟩ 1 1 [.int .i64 x.id, .string x.nm, .bool x.may, .slice A LC c] rfl rfl ?c1 ?c2 ?c3 ?c4 ?c5 ?_))
        case c1 =>
          intro j u hj
          have hrow := heap_alloc_new X (.cells #[.int .i64 x.id, .string x.nm, .bool x.may, .slice A LC c] 66)
          have e : (Addr.mk X.heap.size 0 none).add j = ⟨X.heap.size, j, none⟩ := by cases j <;> simp [Addr.add]
          rw [e, cell_of_row _ _ _ _ _ _ hrow, ← hj]
          simp
        case c2 => intro u hu; simp at hu; rcases hu with rfl | rfl | rfl | rfl <;> rfl
        case c3 => have := HLE.out; unfold maxLen; omega
        case c4 => have := HLE.out; omega
        case c5 => have := HF8.out.just.size; simp at this ⊢; omega
        intro v' w7 ho7 hg7 _
        have HF9 := Lib.hid (HRX.out.grown (q := (x, .slice A LC c)) (by dsimp only; rw [HLC.out]; exact HO8.out.alloc _) hg7 (by simp) ho7)
        clear ho7 hg7 hk0
        go_wp2
        go_roundw
        case rel => exact ⟨k + 1, L ++ [(x, .slice A LC c)], by omega, by go_num, by rw [HNX.out, lastP_snoc], by rw [HNX.out, List.map_append, HLS.out]; rfl, by rw [HNX.out]; exact HF9.out⟩
        case measure => simp [intOf]; omega
      · have HB := Lib.hid (err_bad g _ _ HF.out.rd hk0)
        have HE := Lib.hid (err_any g _ _ HF.out.rd)
        have HST := Lib.hid (itP_stay T k hk0 (n - k))
        rw [show k + (n - k) = n by omega] at HST
        have HK := Lib.hid hk0
        clear hk0
        go_wp2_with fail
        refine HB.out.mono ?_
        rintro e w' ⟨u, y, rfl, rfl⟩
        go_wp2_with fail
        refine HE.out.mono ?_
        rintro e w' ⟨x, hw, rfl, rfl⟩
        obtain ⟨u, y, rfl⟩ : ∃ u y, x = .iface u y := by
          rcases hw with ⟨h1, _⟩ | ⟨_, _, h3⟩
          · exact absurd h1 HK.out
          · exact err_of h3
        have HW := Lib.hid hw
        clear hw
        go_wp2
        go_ret2
        rw [HST.out]
        exact .inl ⟨HK.out, _, rfl, HW.out, HF.out.rd, HF.out.just⟩
    · obtain rfl : k = n := by omega
      by_cases hk0 : (itP T k).1.k = 0
      · have HE := Lib.hid (err_ok g _ _ HF.out.rd hk0)
        have HK := Lib.hid hk0
        have HLS := Lib.hid hL
        clear hk0 hL
        go_wp2_with (first
          | (go_at_call 49; refine HE.out.mono ?_; rintro e w' ⟨rfl, rfl⟩))
        go_ret2
        exact .inr ⟨HK.out, _, L, rfl, HLS.out, HF.out⟩
      · have HE := Lib.hid (err_any g _ _ HF.out.rd)
        have HK := Lib.hid hk0
        clear hk0
        go_wp2_with fail
        refine HE.out.mono ?_
        rintro e w' ⟨x, hw, rfl, rfl⟩
        obtain ⟨u, y, rfl⟩ : ∃ u y, x = .iface u y := by
          rcases hw with ⟨h1, _⟩ | ⟨_, _, h3⟩
          · exact absurd h1 HK.out
          · exact err_of h3
        have HW := Lib.hid hw
        clear hw
        go_wp2
        go_ret2
        exact .inl ⟨HK.out, _, rfl, HW.out, HF.out.rd, HF.out.just⟩
end Go.Proofs.YteadednglodgpaaDoor.Prt
