
/- The function NeedSupplies returns true for every schedule and every four numbers. Condition: none. This text: the walk through the Go text; the row is in the text without the W at its name's end. -/

import Derived.Test.YteefmdelacihfaaArgs

import Derived.Test.YteefmdelacihfaaNeeH

import Derived.Test.YteefmdelacihfaaNeeI

import Derived.Test.YteefmdelacihfaaNeeG

import Derived.Test.YteefmdelacihfaaWinY

import Derived.Deep.RegionHeld3

namespace Go.Proofs.Yteefmdelacihfaa.needSupplies

open Go.RowKit Go.PlainAid Go.Proofs.Yteefmdelacihfaa.Args

set_option linter.unusedVariables false

open Go.Proofs.Yteefmdelacihfaa.Flt Go.Proofs.Yteefmdelacihfaa.Rdr Go.Proofs.Yteefmdelacihfaa.Oct Go.Proofs.Yteefmdelacihfaa.Win Go.Proofs.Yteefmdelacihfaa.Nee

open Go.Proofs.Yteefmdelacihfaa.Act (A3 ActsAt I64 Wide acts_of)

open Go.Proofs.Yteefmdelacihfaa.Scd (SC scC rgS rgS_in rowB)

set_option linter.unusedSimpArgs false

/-- A schedule that came in by value. -/
theorem sched_in2 {w : World} {a : Array Value} (h : IsAgg w [.one (.int .i64), .one (.int .i64), .recs [.int .i64, .int .i64, .int .i64], .recs [.int .i64, .int .i64, .int .i64]] a) :
    ∃ (x : SC) (B : Option Addr) (cb : Nat) (C : Option Addr) (cc : Nat), a = scC x B cb C cc ∧ ActsAt w B x.ws ∧ (∀ y ∈ x.ws, Wide y) ∧ I64 x.fr ∧ ActsAt w C x.ns ∧ x.ws.length ≤ maxLen ∧ x.ns.length ≤ maxLen := by
  obtain ⟨hs, hf⟩ := h
  obtain ⟨v0, e0, id, rfl, w0⟩ := hf 0 _ rfl
  obtain ⟨v1, e1, fr, rfl, w1⟩ := hf 1 _ rfl
  obtain ⟨v2, e2, B, bl, bc, rfl, w2⟩ := hf 2 _ rfl
  obtain ⟨v3, e3, C, cl, cc, rfl, w3⟩ := hf 3 _ rfl
  obtain ⟨ws, hw1, hw2, hw3, hw4, hw5⟩ := acts_of w2
  obtain ⟨ns, hn1, hn2, hn3, hn4, hn5⟩ := acts_of w3
  refine ⟨⟨id, fr, ws, ns⟩, B, bc, C, cc, ?_, hw2, hw3, bounds_i64 w1, hn2, by dsimp only; omega, by dsimp only; omega⟩
  have hs4 : a.size = 4 := hs
  unfold scC
  apply Array.ext_getElem?
  intro i
  rcases (show i = 0 ∨ i = 1 ∨ i = 2 ∨ i = 3 ∨ 4 ≤ i by omega) with rfl | rfl | rfl | rfl | h
  · exact e0
  · exact e1
  · rw [e2, ← hw1]; rfl
  · rw [e3, ← hn1]; rfl
  · rw [Array.getElem?_eq_none (by omega), Array.getElem?_eq_none (by simp; omega)]
/-- The schedule's box. -/
structure NB (b : Nat) (xs : Array Value) (w W : World) : Prop where
  box : W.heap[b]? = some (.cells xs 25 (0, 0))
  below : Below w.heap.size w W
theorem NB.keep {b : Nat} {xs : Array Value} {w W W' : World} (f : NB b xs w W) (k : Below W.heap.size W W') : NB b xs w W' :=
  ⟨(k.block _ (lt_of_block f.box)).trans f.box, f.below.trans (k.mono f.below.size)⟩
theorem NB.cells {b : Nat} {c0 c1 c2 c3 : Value} {w W : World} (f : NB b #[c0, c1, c2, c3] w W) :
    W.cell? ⟨b, 0, none⟩ = some c0 ∧ W.cell? ⟨b, 1, none⟩ = some c1 ∧ W.cell? ⟨b, 2, none⟩ = some c2 ∧ W.cell? ⟨b, 3, none⟩ = some c3 := by
  refine ⟨?_, ?_, ?_, ?_⟩
  all_goals (rw [cell_of_row W _ _ _ _ _ f.box]; rfl)
set_option maxRecDepth 8000 in
set_option maxHeartbeats 6400000 in
theorem walk (a0 : Array Value) (a1 : Int) (a2 : Int) (a3 : Int) (a4 : Int) (w : World) (w0 : IsAgg w [.one (.int .i64), .one (.int .i64), .recs [.int .i64, .int .i64, .int .i64], .recs [.int .i64, .int .i64, .int .i64]] a0) (w1 : (Lit.int .i64 a1).wf = true) (w2 : (Lit.int .i64 a2).wf = true) (w3 : (Lit.int .i64 a3).wf = true) (w4 : (Lit.int .i64 a4).wf = true) :
    Calls Try.prog 3 #[.agg a0, .int .i64 a1, .int .i64 a2, .int .i64 a3, .int .i64 a4] w fun e w' => e = .returned (.bool true) ∧ Below w.heap.size w w' := by
  obtain ⟨x, P, pc, C, cc, rfl, hacts, hwide, hfr, hns, hl1, hl2⟩ := sched_in2 w0
  have hq64 : I64 a4 := bounds_i64 w4
  have hb0 : Below w.heap.size w (w.alloc (.cells (scC x P pc C cc) 25)) := (Below.refl _ _).alloc (Nat.le_refl _) _
  have HBX : Hid (NB w.heap.size (scC x P pc C cc) w (w.alloc (.cells (scC x P pc C cc) 25))) := ⟨heap_alloc_new _ _, hb0⟩
  have HLG := Lib.hid (large_any x P pc C cc _ (hacts.kept hb0) (hns.kept hb0) hl1 hl2)
  obtain ⟨lg, hlg⟩ : ∃ b, lgB x = b := ⟨_, rfl⟩
  rw [hlg] at HLG
  have HLGB := Lib.hid hlg
  have HACT := Lib.hid hacts
  obtain ⟨id, fr, l, ns⟩ := x
  unfold scC at HBX HLG ⊢
  dsimp only at HBX HLG HACT ⊢
  obtain ⟨nl, hnl⟩ : ∃ n, l.length = n := ⟨_, rfl⟩
  have HNL := Lib.hid hnl
  obtain ⟨nn, hnn⟩ : ∃ n, ns.length = n := ⟨_, rfl⟩
  rw [hnl] at HBX HLG ⊢
  rw [hnn] at HBX HLG ⊢
  clear w0 hacts hwide hfr hns hl1 hl2 hb0 hlg hnl hnn
  go_enter Try.func3, Try.ntmps3
  obtain ⟨y0, y1, y2, y3⟩ := HBX.out.cells
  go_wp2_with fail
  refine HLG.out.mono ?_
  rintro e w2 ⟨rfl, hb2⟩
  have HR2 := Lib.hid (HBX.out.keep hb2)
  clear hb2 HLG HBX y0 y1 y2 y3
  obtain ⟨y0, y1, y2, y3⟩ := HR2.out.cells
  cases lg with
  | true =>
    go_wp2_with (go_at_call 6; refine (awake14 _).mono ?_; rintro e w' ⟨rfl, hb⟩; have HB2 := Lib.hid (HR2.out.below.trans (hb.mono HR2.out.below.size)); clear hb)
    go_ret
    exact ⟨rfl, HB2.out⟩
  | false =>
    have hlg := HLGB.out
    unfold lgB at hlg
    simp only [Bool.or_eq_false_iff, decide_eq_false_iff_not] at hlg
    obtain ⟨⟨hrg, h200⟩, h30⟩ := hlg
    obtain ⟨hi1, hi2, hi3, hi4, _⟩ := rgS_in (Decidable.not_not.1 hrg)
    dsimp only at hi1 hi2 hi3 hi4 h200 h30
    have hnum : ∀ x ∈ l, Num x := fun x hx => (num_of (hi4 x hx)).1
    obtain ⟨fn, rfl⟩ : ∃ n : Nat, fr = (n : Int) := ⟨fr.toNat, by omega⟩
    have hf3 : fn ≤ 200 := by omega
    have hf1 : 1 ≤ fn := by omega
    have HWA := Lib.hid (fun (W : World) (b : Below w.heap.size w W) => word_at id fn P C l pc nn cc W (HACT.out.kept b) hnum ⟨hf1, by omega⟩ (by omega))
    have HRWD := Lib.hid (fun (W : World) (b : Below w.heap.size w W) => rword_any id fn P pc l C nn cc W (HACT.out.kept b) hnum (by omega) (by omega))
    have hwl0 : (ticksL (ownT (fn : Int) l) 0 fn).length = fn := ticks_len _ _ _
    obtain ⟨ws, hws⟩ : ∃ ws, ticksL (ownT (fn : Int) l) 0 fn = ws := ⟨_, rfl⟩
    rw [HNL.out, hws] at HWA HRWD
    rw [hws] at hwl0
    have HWL := Lib.hid hwl0
    have HF : Hid (1 ≤ fn ∧ fn ≤ 200) := ⟨hf1, hf3⟩
    obtain ⟨ls, hls⟩ : ∃ n, lsV a1 a4 ws fn = n := ⟨_, rfl⟩
    obtain ⟨sn, hsn⟩ : ∃ n, supN a1 a2 a3 ws ws.length = n := ⟨_, rfl⟩
    obtain ⟨bd, hbd⟩ : ∃ n, bestD a1 ws fn = n := ⟨_, rfl⟩
    have HLS := Lib.hid (fun (W : World) (b : Below w.heap.size w W) => nleast_any id a1 a4 P C nl pc nn cc ws fn W (HWA.out W b) HWL.out hq64 hf1 (by omega))
    have HSP := Lib.hid (fun (W : World) (b : Below w.heap.size w W) => nsup_any id a1 a2 a3 P C nl pc nn cc ws fn W (HWA.out W b) HWL.out hf1 (by omega))
    have HBK := Lib.hid (fun (W : World) (b : Below w.heap.size w W) => black_any id a1 P C nl pc nn cc ws fn W (HWA.out W b) HWL.out hf1 (by omega))
    have HRS := Lib.hid (fun (W : World) (VB c : Nat) (h : ZAt W ⟨VB, 0, none⟩ ws) => rsup_any a1 a2 a3 ws ⟨VB, 0, none⟩ fn c W h HWL.out (by omega))
    have HRB := Lib.hid (fun (W : World) (VB c : Nat) (h : ZAt W ⟨VB, 0, none⟩ ws) => rblack_any a1 ws ⟨VB, 0, none⟩ fn c W h HWL.out hf1 (by omega))
    have HRL : Hid (divB a4 fn = true → ∀ (W : World) (VB c : Nat), ZAt W ⟨VB, 0, none⟩ ws → Calls Try.prog 13 #[.slice (some ⟨VB, 0, none⟩) fn c, .int .i64 a1, .int .i64 a4] W fun e w' => e = .returned (.int .i64 (ls : Int)) ∧ W = w') := fun hd W VB c h => by
      obtain ⟨hq1, hqn⟩ := divB_true hd
      obtain ⟨p, rfl⟩ : ∃ p : Nat, a4 = (p : Int) := ⟨a4.toNat, by omega⟩
      unfold lsV at hls
      rw [if_pos hd] at hls
      rw [Int.toNat_natCast] at hqn hls
      have hple : p ≤ fn := by
        rcases Nat.eq_zero_or_pos (fn / p) with h0 | h0
        · rw [h0] at hqn; omega
        · have := Nat.le_mul_of_pos_left p h0
          omega
      have hh := rleast_any a1 ws ⟨VB, 0, none⟩ p (fn / p) c W h (by rw [HWL.out, hqn]) (by omega) (by omega) (by omega)
      rw [hqn, hls] at hh
      exact hh
    obtain ⟨ek, hek⟩ : ∃ k : Int, (if divB a4 fn = true then (0 : Int) else 13) = k := ⟨_, rfl⟩
    rw [hls, hek] at HLS
    have HEK := Lib.hid hek
    clear hek
    rw [hsn] at HSP HRS
    rw [hbd] at HBK HRB
    have hdv : divB a4 fn = decide (1 ≤ a4 ∧ (fn : Int) % a4 = 0) := by unfold divB; by_cases h1 : 1 ≤ a4 <;> by_cases h2 : (fn : Int) % a4 = 0 <;> simp [h1, h2]
    have hl0 : divB a4 fn = false → ls = 0 := fun h => by rw [← hls]; unfold lsV; rw [if_neg (by rw [h]; simp)]
    have HL0 := Lib.hid hl0
    clear hrg h200 h30 hi1 hi2 hi3 hi4 hnum hws hwl0 hls hsn hbd HWA hl0
    go_wp2_with fail
    refine (HRWD.out _ HR2.out.below).mono ?_
    rintro e w3 ⟨VB, vc, rfl, ho3, hb3⟩
    have HR3 := Lib.hid (HR2.out.keep hb3)
    have HZ3 := Lib.hid (own_zat ho3 HWL.out)
    have HV3 : Hid (VB < w3.heap.size) := (ho3.lt VB rfl).2
    clear hb3 ho3 HRWD HR2 y0 y1 y2 y3
    obtain ⟨y0, y1, y2, y3⟩ := HR3.out.cells
    go_wp2_with fail
    refine (HLS.out _ HR3.out.below).mono ?_
    rintro e w4 ⟨rfl, hb4⟩
    have HR4 := Lib.hid (HR3.out.keep hb4)
    have HZ4 := Lib.hid (HZ3.out.kept hb4 (fun _ => HV3.out))
    have HV4 : Hid (VB < w4.heap.size) := Nat.lt_of_lt_of_le HV3.out hb4.size
    clear hb4 HLS HR3 HZ3 HV3 y0 y1 y2 y3
    obtain ⟨y0, y1, y2, y3⟩ := HR4.out.cells
    go_wp2_with fail
    refine (HSP.out _ HR4.out.below).mono ?_
    rintro e w5 ⟨rfl, hb5⟩
    have HR5 := Lib.hid (HR4.out.keep hb5)
    have HZ5 := Lib.hid (HZ4.out.kept hb5 (fun _ => HV4.out))
    have HV5 : Hid (VB < w5.heap.size) := Nat.lt_of_lt_of_le HV4.out hb5.size
    clear hb5 HSP HR4 HZ4 HV4 y0 y1 y2 y3
    obtain ⟨y0, y1, y2, y3⟩ := HR5.out.cells
    go_wp2_with fail
    refine (HRS.out _ VB vc HZ5.out).mono ?_
    rintro e w6 ⟨rfl, rfl⟩
    go_wp2_with fail
    refine (HBK.out _ HR5.out.below).mono ?_
    rintro e w7 ⟨rfl, hb7⟩
    have HR7 := Lib.hid (HR5.out.keep hb7)
    have HZ7 := Lib.hid (HZ5.out.kept hb7 (fun _ => HV5.out))
    clear hb7 HBK HR5 HZ5 HV5 y0 y1 y2 y3
    obtain ⟨y0, y1, y2, y3⟩ := HR7.out.cells
    go_wp2_with fail
    refine (HRB.out _ VB vc HZ7.out).mono ?_
    rintro e w8 ⟨rfl, rfl⟩
    by_cases h1 : a4 < 1
    · have t1 : decide (a4 < 1) = true := decide_eq_true h1
      have hdf : divB a4 fn = false := by rw [hdv]; exact decide_eq_false (fun h => by omega)
      have hlz := HL0.out hdf
      obtain rfl : ek = 13 := by rw [← HEK.out, if_neg (by rw [hdf]; simp)]
      rw [hlz]
      clear h1 hdv hdf
      go_wp2_with (go_at_call 6; refine (awake14 _).mono ?_; rintro e w' ⟨rfl, hb⟩; have HB2 := Lib.hid (HR7.out.below.trans (hb.mono HR7.out.below.size)); clear hb)
      go_ret
      exact ⟨rfl, HB2.out⟩
    · have t1 : decide (a4 < 1) = false := decide_eq_false h1
      obtain ⟨q, hq⟩ : ∃ q : Int, (fn : Int) % a4 = q := ⟨_, rfl⟩
      have ht : Int.tmod (fn : Int) a4 = q := by rw [← hq]; exact Int.tmod_eq_emod_of_nonneg (by omega)
      have hp1 : ¬ a4 = 0 := by omega
      have hq0 : 0 ≤ q := by rw [← hq]; exact Int.emod_nonneg _ (by omega)
      have hq1 : q ≤ fn := by
        obtain ⟨pn, rfl⟩ : ∃ n : Nat, a4 = (n : Int) := ⟨a4.toNat, by omega⟩
        rw [← hq, ← Int.natCast_emod]
        have := Nat.mod_le fn pn
        omega
      have hqw : IntKind.i64.wrap q = q := IntWalk.i64_in _ (by omega)
      rw [hq] at hdv
      by_cases hqz : q = 0
      · subst hqz
        have hdt : divB a4 fn = true := by rw [hdv]; exact decide_eq_true ⟨by omega, rfl⟩
        have HRL2 := Lib.hid (HRL.out hdt)
        obtain rfl : ek = 0 := by rw [← HEK.out, if_pos hdt]
        clear h1 hdv hdt hq hq0 hq1 HRL
        go_wp2_with fail
        refine (HRL2.out _ VB vc HZ7.out).mono ?_
        rintro e w9 ⟨rfl, rfl⟩
        go_wp2_with (go_at_call 6; refine (awake14 _).mono ?_; rintro e w' ⟨rfl, hb⟩; have HB2 := Lib.hid (HR7.out.below.trans (hb.mono HR7.out.below.size)); clear hb)
        go_ret
        exact ⟨rfl, HB2.out⟩
      · have hqb : (q != 0) = true := by simp [hqz]
        have hqb2 : (q == 0) = false := by simp [hqz]
        have hdf : divB a4 fn = false := by rw [hdv]; exact decide_eq_false (fun h => hqz h.2)
        have hlz := HL0.out hdf
        obtain rfl : ek = 13 := by rw [← HEK.out, if_neg (by rw [hdf]; simp)]
        rw [hlz]
        clear h1 hdv hdf hq hq0 hq1 hqz
        go_wp2_with (go_at_call 6; refine (awake14 _).mono ?_; rintro e w' ⟨rfl, hb⟩; have HB2 := Lib.hid (HR7.out.below.trans (hb.mono HR7.out.below.size)); clear hb)
        go_ret
        exact ⟨rfl, HB2.out⟩

  
end Go.Proofs.Yteefmdelacihfaa.needSupplies
