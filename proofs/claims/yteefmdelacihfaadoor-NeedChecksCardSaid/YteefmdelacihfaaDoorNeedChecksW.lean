
/- The function NeedChecks returns true for every schedule and every slice of ids. Condition: the package-level variables hold what the program lays in them (the card ties that). This text: the walk through the Go text; the row is in the text without the W at its name's end. -/

import Derived.Test.YteefmdelacihfaaDoorArgs

import Derived.Test.YteefmdelacihfaaDoorNeeJ

import Derived.Test.YteefmdelacihfaaDoorWinF

import Derived.Test.YteefmdelacihfaaDoorWinY

import Derived.Deep.RegionHeld3

namespace Go.Proofs.YteefmdelacihfaaDoor.needChecks

open Go.RowKit Go.PlainAid Go.Proofs.YteefmdelacihfaaDoor.Args

set_option linter.unusedVariables false

open Go.Proofs.YteefmdelacihfaaDoor.Flt Go.Proofs.YteefmdelacihfaaDoor.Rdr Go.Proofs.YteefmdelacihfaaDoor.Oct Go.Proofs.YteefmdelacihfaaDoor.Win Go.Proofs.YteefmdelacihfaaDoor.Nee

open Go.Proofs.YteefmdelacihfaaDoor.Act (A3 ActsAt I64 Wide acts_of)

open Go.Proofs.YteefmdelacihfaaDoor.Scd (SC scC rgS rgS_in rowB)

set_option linter.unusedSimpArgs false

/-- A schedule that came in by value. -/
theorem sched_in2 {w : World} {a : Array Value} (h : IsAgg w [.one (.int .i64), .one (.int .i64), .recs [.int .i64, .int .i64, .int .i64], .recs [.int .i64, .int .i64, .int .i64]] a) :
    ∃ (x : SC) (B : Option Addr) (cb : Nat) (C : Option Addr) (cc : Nat), a = scC x B cb C cc ∧ ActsAt w B x.ws ∧ (∀ y ∈ x.ws, Wide y) ∧ I64 x.fr ∧ ActsAt w C x.ns ∧ x.ws.length ≤ maxLen ∧ x.ns.length ≤ maxLen := by
  obtain ⟨hs, hf⟩ := h
  obtain ⟨v0, e0, id, rfl, w0⟩ := hf 0 _ rfl
  obtain ⟨v1, e1, fr, rfl, w1⟩ := hf 1 _ rfl
  obtain ⟨v2, e2, B, bl, bc, rfl, w2⟩ := hf 2 _ rfl
  obtain ⟨v3, e3, C, cl, cc, rfl, w3⟩ := hf 3 _ rfl
  obtain ⟨ws, hw1, hw2, hw3, hw4, hw5⟩ := acts_of w2
  obtain ⟨ns, hn1, hn2, hn3, hn4, hn5⟩ := acts_of w3
  refine ⟨⟨id, fr, ws, ns⟩, B, bc, C, cc, ?_, hw2, hw3, bounds_i64 w1, hn2, by dsimp only; omega, by dsimp only; omega⟩
  have hs4 : a.size = 4 := hs
  unfold scC
  apply Array.ext_getElem?
  intro i
  rcases (show i = 0 ∨ i = 1 ∨ i = 2 ∨ i = 3 ∨ 4 ≤ i by omega) with rfl | rfl | rfl | rfl | h
  · exact e0
  · exact e1
  · rw [e2, ← hw1]; rfl
  · rw [e3, ← hn1]; rfl
  · rw [Array.getElem?_eq_none (by omega), Array.getElem?_eq_none (by simp; omega)]
/-- The schedule's box. -/
structure NB (b : Nat) (xs : Array Value) (w W : World) : Prop where
  box : W.heap[b]? = some (.cells xs 25 (0, 0))
  below : Below w.heap.size w W
theorem NB.keep {b : Nat} {xs : Array Value} {w W W' : World} (f : NB b xs w W) (k : Below W.heap.size W W') : NB b xs w W' :=
  ⟨(k.block _ (lt_of_block f.box)).trans f.box, f.below.trans (k.mono f.below.size)⟩
theorem NB.cells {b : Nat} {c0 c1 c2 c3 : Value} {w W : World} (f : NB b #[c0, c1, c2, c3] w W) :
    W.cell? ⟨b, 0, none⟩ = some c0 ∧ W.cell? ⟨b, 1, none⟩ = some c1 ∧ W.cell? ⟨b, 2, none⟩ = some c2 ∧ W.cell? ⟨b, 3, none⟩ = some c3 := by
  refine ⟨?_, ?_, ?_, ?_⟩
  all_goals (rw [cell_of_row W _ _ _ _ _ f.box]; rfl)
theorem ints_in {w : World} {a : Option Addr} {len cap : Nat} {z : List Int} (h : IsRow .i64 w a len cap z) : (z.take len).length = len ∧ IntsBelow w.heap.size w (.slice a len cap) (z.take len) := by
  rcases h with ⟨rfl, rfl, rfl, rfl⟩ | ⟨y, rfl, h1, h2, h3, h4, _⟩
  · exact ⟨rfl, .inl ⟨rfl, rfl⟩⟩
  · have hl : (z.take len).length = len := by rw [List.length_take]; omega
    refine ⟨hl, ?_⟩
    refine .inr ⟨y, cap, by rw [hl], fun h0 => ?_, fun j hj => ?_⟩
    · have := Go.block_lt_of_cell (h4 0 (by rw [hl] at h0; omega))
      rw [add_block] at this
      exact this
    · rw [hl] at hj
      rw [h4 j (by omega)]
      simp [List.getD, List.getElem?_take_of_lt hj]
/-- What stands behind the document's Check and the program's. -/
structure PW (F : Nat) (fv : Array Value) (x : Value) (k : Nat) (a : Int) (w W : World) : Prop where
  flt : W.heap[F]? = some (.cells fv 45 (0, 0))
  wr : WrongA W x k a
  names : Names W
  below : Below w.heap.size w W
theorem PW.keep {F : Nat} {fv : Array Value} {x : Value} {k : Nat} {a : Int} {w W W' : World} (f : PW F fv x k a w W) (b : Below W.heap.size W W') : PW F fv x k a w W' :=
  ⟨(b.block _ (lt_of_block f.flt)).trans f.flt, f.wr.kept b, f.names.kept b, f.below.trans (b.mono f.below.size)⟩
theorem PW.drew {F : Nat} {fv : Array Value} {x : Value} {k : Nat} {a : Int} {w W : World} (f : PW F fv x k a w W) : PW F fv x k a w W.drew := f.keep ⟨rfl, rfl, rfl, Nat.le_refl _, fun _ _ => rfl⟩
theorem PW.cells {F : Nat} {k : Nat} {a : Int} {x : Value} {w W : World} (f : PW F #[.int .i64 k, .int .i64 0, .int .i64 a] x k a w W) : W.cell? ⟨F, 0, none⟩ = some (.int .i64 k) ∧ W.cell? ⟨F, 1, none⟩ = some (.int .i64 0) ∧ W.cell? ⟨F, 2, none⟩ = some (.int .i64 a) := by
  refine ⟨?_, ?_, ?_⟩
  all_goals (rw [cell_of_row W _ _ _ _ _ f.flt]; rfl)
theorem wrongA_form {w : World} {x : Value} {k : Nat} {a : Int} (h : WrongA w x k a) (hk : k ≠ 0) : ∃ u y, x = .iface u y := by
  rcases h with ⟨h, _⟩ | ⟨_, _, g, y, rfl, _⟩
  · exact absurd h hk
  · exact ⟨_, _, rfl⟩
theorem size_flt : (Tryd.prog.info? 45).map (·.size) = some 3 := by kernel_rfl
theorem one_flt3 (k : Nat) (a : Int) : (#[.int .i64 k, .int .i64 0, .int .i64 a] : Array Value).all (·.oneCell') = true := by simp [Value.oneCell']
set_option maxRecDepth 8000 in
set_option maxHeartbeats 6400000 in
theorem walk (a0 : Array Value) (a1 : Option Addr) (len1 cap1 : Nat) (z1 : List Int) (w : World) (w0 : IsAgg w [.one (.int .i64), .one (.int .i64), .recs [.int .i64, .int .i64, .int .i64], .recs [.int .i64, .int .i64, .int .i64]] a0) (w1 : IsRow .i64 w a1 len1 cap1 z1) (hn : Go.Proofs.YteefmdelacihfaaDoor.Flt.Names w) :
    Calls Tryd.prog 4 #[.agg a0, .slice a1 len1 cap1] w fun e w' => e = .returned (.bool true) ∧ Below w.heap.size w w' := by
  obtain ⟨x, P, pc, C, cc, rfl, hacts, hwide, hfr, hns, hl1, hl2⟩ := sched_in2 w0
  obtain ⟨hzl, hints⟩ := ints_in w1
  obtain ⟨ids, hids⟩ : ∃ ids, z1.take len1 = ids := ⟨_, rfl⟩
  rw [hids] at hzl hints
  have HN := Lib.hid hn
  have hb0 : Below w.heap.size w (w.alloc (.cells (scC x P pc C cc) 25)) := (Below.refl _ _).alloc (Nat.le_refl _) _
  have HBX : Hid (NB w.heap.size (scC x P pc C cc) w (w.alloc (.cells (scC x P pc C cc) 25))) := ⟨heap_alloc_new _ _, hb0⟩
  have HLG := Lib.hid (large_any x P pc C cc _ (hacts.kept hb0) (hns.kept hb0) hl1 hl2)
  obtain ⟨lg, hlg⟩ : ∃ b, lgB x = b := ⟨_, rfl⟩
  rw [hlg] at HLG
  have HLGB := Lib.hid hlg
  have HACT := Lib.hid hacts
  have HNS := Lib.hid hns
  have HINT := Lib.hid hints
  have HZL := Lib.hid hzl
  obtain ⟨id, fr, l, ns⟩ := x
  unfold scC at HBX HLG ⊢
  dsimp only at HBX HLG HACT HNS ⊢
  obtain ⟨nl, hnl⟩ : ∃ n, l.length = n := ⟨_, rfl⟩
  have HNL := Lib.hid hnl
  obtain ⟨nn, hnn⟩ : ∃ n, ns.length = n := ⟨_, rfl⟩
  have HNNL := Lib.hid hnn
  rw [hnl] at HBX HLG ⊢
  rw [hnn] at HBX HLG ⊢
  clear w0 w1 hacts hwide hfr hns hl1 hl2 hb0 hlg hnl hnn hn hids hints hzl
  go_enter Tryd.func4, Tryd.ntmps4
  obtain ⟨y0, y1, y2, y3⟩ := HBX.out.cells
  go_wp2_with fail
  refine HLG.out.mono ?_
  rintro e w2 ⟨rfl, hb2⟩
  have HR2 := Lib.hid (HBX.out.keep hb2)
  clear hb2 HLG HBX y0 y1 y2 y3
  obtain ⟨y0, y1, y2, y3⟩ := HR2.out.cells
  cases lg with
  | true =>
    go_wp2_with (go_at_call 19; refine (awake14 _).mono ?_; rintro e w' ⟨rfl, hb⟩; have HB2 := Lib.hid (HR2.out.below.trans (hb.mono HR2.out.below.size)); clear hb)
    go_ret
    exact ⟨rfl, HB2.out⟩
  | false =>
    by_cases h60 : 60 < len1
    · have t60 : decide ((60 : Int) < (len1 : Int)) = true := decide_eq_true (by omega)
      clear h60
      go_wp2_with (go_at_call 19; refine (awake14 _).mono ?_; rintro e w' ⟨rfl, hb⟩; have HB2 := Lib.hid (HR2.out.below.trans (hb.mono HR2.out.below.size)); clear hb)
      go_ret
      exact ⟨rfl, HB2.out⟩
    have t60 : decide ((60 : Int) < (len1 : Int)) = false := decide_eq_false (by omega)
    have hlg := HLGB.out
    unfold lgB at hlg
    simp only [Bool.or_eq_false_iff, decide_eq_false_iff_not] at hlg
    obtain ⟨⟨hrg, h200⟩, h30⟩ := hlg
    obtain ⟨hi1, hi2, hi3, hi4, hi5, hi6⟩ := rgS_in (Decidable.not_not.1 hrg)
    dsimp only at hi1 hi2 hi3 hi4 hi5 hi6 h200 h30
    have hnum : ∀ x ∈ l, Num x := fun x hx => (num_of (hi4 x hx)).1
    obtain ⟨fn, rfl⟩ : ∃ n : Nat, fr = (n : Int) := ⟨fr.toNat, by omega⟩
    have hf3 : fn ≤ 200 := by omega
    have hf1 : 1 ≤ fn := by omega
    have HWA := Lib.hid (fun (W : World) (b : Below w.heap.size w W) => word_at id fn P C l pc nn cc W (HACT.out.kept b) hnum ⟨hf1, by omega⟩ (by omega))
    have HRWD := Lib.hid (fun (W : World) (b : Below w.heap.size w W) => rword_any id fn P pc l C nn cc W (HACT.out.kept b) hnum (by omega) (by omega))
    have hwl0 : (ticksL (ownT (fn : Int) l) 0 fn).length = fn := ticks_len _ _ _
    obtain ⟨ws, hws⟩ : ∃ ws, ticksL (ownT (fn : Int) l) 0 fn = ws := ⟨_, rfl⟩
    rw [HNL.out, hws] at HWA HRWD
    rw [hws] at hwl0
    have HWL := Lib.hid hwl0
    have HF : Hid (1 ≤ fn ∧ fn ≤ 200) := ⟨hf1, hf3⟩
    have hnns : ∀ x ∈ ns, Num x := fun x hx => (num_of (hi6 x hx)).1
    have HNW : Hid (∀ W, Below w.heap.size w W → RWordAt #[.int .i64 id, .int .i64 (fn : Int), .slice P nl pc, .slice C nn cc] ws fn W) := fun W b W' b' => HRWD.out W' (b.trans (b'.mono b.size))
    have hil : ids.length ≤ 1099511627776 := by rw [HZL.out]; omega
    have hnl2 : ns.length ≤ 1000 := by omega
    have HRC : Hid (∀ W, Below w.heap.size w W → Calls Tryd.prog 20 #[.agg #[.int .i64 id, .int .i64 (fn : Int), .slice P nl pc, .slice C nn cc], .slice a1 len1 cap1] W fun e w' => e = .returned (.tuple #[.int .i64 (chkN ids ws fn ⟨0, 0, 0⟩ 0 ns).2, .int .i64 (chkN ids ws fn ⟨0, 0, 0⟩ 0 ns).1]) ∧ Below W.heap.size W w') := fun W b => by
      have h := rncheck_any id P nl pc ns C cc a1 len1 cap1 ids ws fn W ((HINT.out.below b).mono b.size) (HNS.out.kept b) hnns hnl2 hil (by rw [HNNL.out]; exact HNW.out W b) HWL.out hf1 (by omega)
      rw [HNNL.out] at h
      exact h
    have HCK : Hid (∀ W, Below w.heap.size w W → Calls Tryd.prog 21 #[.agg #[.int .i64 id, .int .i64 (fn : Int), .slice P nl pc, .slice C nn cc], .slice a1 len1 cap1] W fun e w' => ∃ x, e = .returned x ∧ WrongA w' x (chkN ids ws fn ⟨0, 0, 0⟩ 0 ns).1 (chkN ids ws fn ⟨0, 0, 0⟩ 0 ns).2 ∧ Below W.heap.size W w') := fun W b => by
      have h := ncheck_any id P nl pc ns C cc a1 len1 cap1 ids ws fn W (HN.out.kept b) ((HINT.out.below b).mono b.size) (HNS.out.kept b) hnns hnl2 hil (by rw [HNNL.out]; exact HWA.out W b) HWL.out hf1 (by omega)
      rw [HNNL.out] at h
      exact h
    obtain ⟨q, hq⟩ : ∃ q, chkN ids ws fn ⟨0, 0, 0⟩ 0 ns = q := ⟨_, rfl⟩
    rw [hq] at HRC HCK
    obtain ⟨k, a⟩ := q
    dsimp only at HRC HCK
    clear hrg h200 h30 hi1 hi2 hi3 hi4 hi5 hi6 hnum hnns hws hwl0 hq HWA HRWD hil hnl2 h60
    go_wp2_with fail
    refine (HRC.out _ HR2.out.below).mono ?_
    rintro e w3 ⟨rfl, hb3⟩
    have HR3 := Lib.hid (HR2.out.keep hb3)
    clear hb3 HRC HR2 y0 y1 y2 y3
    obtain ⟨y0, y1, y2, y3⟩ := HR3.out.cells
    go_wp2_with fail
    refine (HCK.out _ HR3.out.below).mono ?_
    rintro e w4 ⟨x, rfl, hx, hb4'⟩
    have HX := Lib.hid hx
    have HB3 := Lib.hid (HR3.out.below.trans (hb4'.mono HR3.out.below.size))
    clear hx hb4' y0 y1 y2 y3 HCK HR3
    have hb4 : Below w4.heap.size w4 (w4.alloc (.cells #[.int .i64 0, .int .i64 0, .int .i64 0] 45)) := (Below.refl _ _).alloc (Nat.le_refl _) _
    have HB4 := Lib.hid (HB3.out.trans (hb4.mono HB3.out.size))
    have HX4 := Lib.hid (HX.out.kept hb4)
    have HF4 := Lib.hid (heap_alloc_new w4 (.cells #[.int .i64 0, .int .i64 0, .int .i64 0] 45))
    clear hb4 HX
    by_cases hk : k = 0
    · subst hk
      have hx0 : a = 0 ∧ x = .nilIface := by
        rcases HX4.out with ⟨_, h1, h2⟩ | ⟨h1, _⟩
        · exact ⟨h1, h2⟩
        · omega
      obtain ⟨rfl, rfl⟩ := hx0
      have HP : Hid (PW w4.heap.size #[.int .i64 (0 : Nat), .int .i64 0, .int .i64 0] .nilIface 0 0 w (w4.alloc (.cells #[.int .i64 0, .int .i64 0, .int .i64 0] 45))) := ⟨HF4.out, HX4.out, HN.out.kept HB4.out, HB4.out⟩
      clear HX4 HF4 HB4 HB3
      have hz0 : ((0 : Nat) : Int) = 0 := rfl
      go_wp2_with fail
      obtain ⟨F, hF⟩ : ∃ F, w4.heap.size = F := ⟨_, rfl⟩
      obtain ⟨W, hW⟩ : ∃ W, w4.alloc (.cells #[.int .i64 0, .int .i64 0, .int .i64 0] 45) = W := ⟨_, rfl⟩
      rw [hW, hF] at HP
      rw [hW, hF]
      clear hF hW
      have HPD := Lib.hid HP.out.drew
      have HC0 := Lib.hid HP.out.cells
      obtain ⟨d0, d1, d2⟩ := HC0.out
      have hef : ∀ wx : World, (Op.equalIn 10000 45 (.agg #[.int .i64 ((0 : Nat) : Int), .int .i64 0, .int .i64 0]) (.agg #[.int .i64 ((0 : Nat) : Int), .int .i64 0, .int .i64 0])).run Tryd.prog wx = .ok true wx := eq_flt ((0 : Nat) : Int) 0 0
      go_region_held3 (fun wx => wx.cell? ⟨F, 0, none⟩ = some (.int .i64 ((0 : Nat) : Int)) ∧ wx.cell? ⟨F, 1, none⟩ = some (.int .i64 0) ∧ wx.cell? ⟨F, 2, none⟩ = some (.int .i64 0)) (first | (go_keep; done) | exact HC0.out | exact HKP.out | (refine ⟨?_, ?_, ?_⟩ <;> assumption))
        (first
          | (go_at_call 22; refine (of_wrongA _ HPD.out.wr).mono ?_; rintro e w5 ⟨rfl, hb5⟩; (try simp only [fltV, Int.natCast_zero]); have HP7 := Lib.hid (HPD.out.keep hb5); have HKP := Lib.hid HP7.out.cells; clear hb5)
          | (go_at_call 19; refine (awake14 _).mono ?_; rintro e w9 ⟨rfl, hb9⟩; have HP9 := Lib.hid (HP7.out.keep hb9); have HKP := Lib.hid HP9.out.cells; clear hb9)
          | fail)
      go_wp2
      go_ret
      exact ⟨rfl, HP9.out.below⟩
    · obtain ⟨u, y, rfl⟩ := wrongA_form HX4.out hk
      have tk : ((k : Int) != 0) = true := by simp; omega
      have tk2 : ((k : Int) == 0) = false := by simp; omega
      have HSF := Lib.hid size_flt
      have hset : Below w.heap.size w ((w4.alloc (.cells #[.int .i64 0, .int .i64 0, .int .i64 0] 45)).setRow w4.heap.size #[.int .i64 k, .int .i64 0, .int .i64 a]) := by
        have j := just_set (w4.alloc (.cells #[.int .i64 0, .int .i64 0, .int .i64 0] 45)) w4.heap.size #[.int .i64 k, .int .i64 0, .int .i64 a]
        exact ⟨HB4.out.os, HB4.out.tape, HB4.out.output, Nat.le_trans HB4.out.size j.size, fun q hq => (j.block q (Nat.lt_of_lt_of_le hq HB4.out.size) (by have := HB3.out.size; omega)).trans (HB4.out.block q hq)⟩
      have HP : Hid (PW w4.heap.size #[.int .i64 k, .int .i64 0, .int .i64 a] (.iface u y) k a w ((w4.alloc (.cells #[.int .i64 0, .int .i64 0, .int .i64 0] 45)).setRow w4.heap.size #[.int .i64 k, .int .i64 0, .int .i64 a])) := by
        refine ⟨setRow_heap _ _ _ _ _ _ HF4.out, ?_, HN.out.kept hset, hset⟩
        rcases HX4.out with ⟨h, _⟩ | ⟨h1, h2, h3⟩
        · exact absurd h hk
        · refine .inr ⟨h1, h2, h3.only fun g cs hg => ?_⟩
          refine setRow_other _ _ _ _ fun e => ?_
          rw [e, HF4.out] at hg
          simp only [Option.some.injEq, Obj.cells.injEq] at hg
          exact absurd hg.2.1 (by decide)
      clear hk hset HX4 HB4 HB3
      go_upto_region 8 with (first
        | ((with_reducible show wpList _ _ _ _ _ _); refine wpList_store_row rfl 45 (.tmp 8) (.tmp 31) rfl w4.heap.size #[.int .i64 k, .int .i64 0, .int .i64 a] rfl rfl 45 #[.int .i64 0, .int .i64 0, .int .i64 0] HF4.out (by rw [HSF.out]; rfl) rfl (one_flt3 k a) ?_))
      obtain ⟨F, hF⟩ : ∃ F, w4.heap.size = F := ⟨_, rfl⟩
      obtain ⟨W, hW⟩ : ∃ W, (w4.alloc (.cells #[.int .i64 0, .int .i64 0, .int .i64 0] 45)).setRow w4.heap.size #[.int .i64 k, .int .i64 0, .int .i64 a] = W := ⟨_, rfl⟩
      rw [hW, hF] at HP
      rw [hW, hF]
      clear hF hW
      have HPD := Lib.hid HP.out.drew
      have HC0 := Lib.hid HP.out.cells
      obtain ⟨d0, d1, d2⟩ := HC0.out
      have hef : ∀ wx : World, (Op.equalIn 10000 45 (.agg #[.int .i64 k, .int .i64 0, .int .i64 a]) (.agg #[.int .i64 k, .int .i64 0, .int .i64 a])).run Tryd.prog wx = .ok true wx := eq_flt k 0 a
      go_region_held3 (fun wx => wx.cell? ⟨F, 0, none⟩ = some (.int .i64 k) ∧ wx.cell? ⟨F, 1, none⟩ = some (.int .i64 0) ∧ wx.cell? ⟨F, 2, none⟩ = some (.int .i64 a)) (first | (go_keep; done) | exact HC0.out | exact HKP.out | (refine ⟨?_, ?_, ?_⟩ <;> assumption))
        (first
          | (go_at_call 22; refine (of_wrongA _ HPD.out.wr).mono ?_; rintro e w5 ⟨rfl, hb5⟩; (try simp only [fltV, Int.natCast_zero]); have HP7 := Lib.hid (HPD.out.keep hb5); have HKP := Lib.hid HP7.out.cells; clear hb5)
          | (go_at_call 19; refine (awake14 _).mono ?_; rintro e w9 ⟨rfl, hb9⟩; have HP9 := Lib.hid (HP7.out.keep hb9); have HKP := Lib.hid HP9.out.cells; clear hb9)
          | fail)
      go_wp2
      go_ret
      exact ⟨rfl, HP9.out.below⟩

end Go.Proofs.YteefmdelacihfaaDoor.needChecks
