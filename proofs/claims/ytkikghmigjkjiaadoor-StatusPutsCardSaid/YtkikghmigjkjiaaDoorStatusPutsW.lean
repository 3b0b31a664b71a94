
/- The function StatusPuts returns true for every slice of bytes and every status. Condition: the package-level variables hold what the program lays in them (the card ties that). This text: the walk through the Go text; the row is in the text without the W at its name's end. -/

import Derived.Test.YtkikghmigjkjiaaDoorArgs

import Derived.Test.YtkikghmigjkjiaaDoorStaD

import Derived.Test.YtkikghmigjkjiaaDoorStaC

import Derived.Test.YtkikghmigjkjiaaDoorCnvS

namespace Go.Proofs.YtkikghmigjkjiaaDoor.statusPuts

open Go.RowKit Go.PlainAid Go.Proofs.YtkikghmigjkjiaaDoor.Args

set_option linter.unusedVariables false

open Go.Proofs.YtkikghmigjkjiaaDoor.Sta Go.Proofs.YtkikghmigjkjiaaDoor.Oct Go.Proofs.YtkikghmigjkjiaaDoor.Flt Go.Proofs.YtkikghmigjkjiaaDoor.Byt

set_option linter.unusedSimpArgs false

theorem eq_st (a b c : Int) (w : World) : (Op.equalIn 10000 25 (.agg #[.int .u64 a, .int .i64 b, .int .i64 c]) (.agg #[.int .u64 a, .int .i64 b, .int .i64 c])).run Tryd.prog w = .ok true w := by
  have hS : Tryd.prog.underlying 25 = some (.struct (Tryd.prog.fieldsOf 25)) := by kernel_rfl
  rw [show (10000 : Nat) = 9999 + 1 from rfl, run_equalIn_agg w 9999 25 _ _ hS (by kernel_rfl)]
  simp only [Program.fieldsOf, Tryd.underlying25]
  go_simp
set_option maxRecDepth 4000 in
theorem conv_ownsS {w : World} {B n : Nat} {v : Value} {xs : List Int} (h : w.ownsRow B 5 1 v n (xs.map (Value.int .u8))) :
    (convert 22 9 v).run Tryd.prog w = .ok (.string (strOfNums xs)) w := by
  have hl : xs.length = n := by have := h.1; simpa using this
  rcases h.2 with ⟨rfl, h0⟩ | ⟨g, cap, cur, rfl, h3⟩
  · subst h0
    obtain rfl : xs = [] := List.eq_nil_of_length_eq_zero hl
    rw [run_convert_bytes_string (P := Tryd.prog) w 22 9 5 none 0 0 underU8 rfl rfl]
    rfl
  · refine run_convert_bytes_arg (P := Tryd.prog) w 22 5 underU8 rfl g 0 n cap xs hl ?_ 9 rfl
    intro i hi
    rw [Nat.zero_add, h.cellAt i (by omega)]
    simp [List.getD, List.getElem?_eq_getElem (show i < xs.length by omega)]
/-- What stands behind Put. -/
structure PS (w : World) (B0 D : Nat) (l c n : Int) (fv : Array Value) (V : Value) (N : Nat) (ys : List Int) (W : World) : Prop where
  st : W.heap[B0]? = some (.cells #[.int .u64 l, .int .i64 c, .int .i64 n] 25 (0, 0))
  flt : W.heap[D]? = some (.cells fv 33 (0, 0))
  own : W.ownsRow w.heap.size 5 1 V N (ys.map (Value.int .u8))
  below : Below w.heap.size w W
theorem PS.keep {w W W' : World} {B0 D N : Nat} {l c n : Int} {fv : Array Value} {V : Value} {ys : List Int} (f : PS w B0 D l c n fv V N ys W) (b : Below W.heap.size W W') : PS w B0 D l c n fv V N ys W' :=
  ⟨(b.block _ (lt_of_block f.st)).trans f.st, (b.block _ (lt_of_block f.flt)).trans f.flt, Byt.owns_kept f.own b, f.below.trans (b.mono f.below.size)⟩
theorem PS.drew {w W : World} {B0 D N : Nat} {l c n : Int} {fv : Array Value} {V : Value} {ys : List Int} (f : PS w B0 D l c n fv V N ys W) : PS w B0 D l c n fv V N ys W.drew := f.keep ⟨rfl, rfl, rfl, Nat.le_refl _, fun _ _ => rfl⟩
theorem PS.fc {w W : World} {B0 D N : Nat} {l c n k s q : Int} {V : Value} {ys : List Int} (f : PS w B0 D l c n #[.int .i64 k, .int .i64 s, .int .i64 q] V N ys W) :
    W.cell? ⟨D, 0, none⟩ = some (.int .i64 k) ∧ W.cell? ⟨D, 1, none⟩ = some (.int .i64 s) ∧ W.cell? ⟨D, 2, none⟩ = some (.int .i64 q) := by
  refine ⟨?_, ?_, ?_⟩
  all_goals (rw [cell_of_row W _ _ _ _ _ f.flt]; rfl)
theorem PS.sc {w W : World} {B0 D N : Nat} {l c n : Int} {fv : Array Value} {V : Value} {ys : List Int} (f : PS w B0 D l c n fv V N ys W) :
    W.cell? ⟨B0, 0, none⟩ = some (.int .u64 l) ∧ W.cell? ⟨B0, 1, none⟩ = some (.int .i64 c) ∧ W.cell? ⟨B0, 2, none⟩ = some (.int .i64 n) := by
  refine ⟨?_, ?_, ?_⟩
  all_goals (rw [cell_of_row W _ _ _ _ _ f.st]; rfl)
theorem k3 {a b c d : Prop} (h : a ∧ b ∧ c) (hd : d) : a ∧ b ∧ c ∧ d := ⟨h.1, h.2.1, h.2.2, hd⟩
theorem status_of {w : World} {a : Array Value} (h : IsAgg w [.one (.int .u64), .one (.int .i64), .one (.int .i64)] a) : ∃ (l : Nat) (c n : Int), a = #[.int .u64 l, .int .i64 c, .int .i64 n] ∧ l ≤ 18446744073709551615 ∧ (-9223372036854775808 ≤ c ∧ c ≤ 9223372036854775807) ∧ (-9223372036854775808 ≤ n ∧ n ≤ 9223372036854775807) := by
  obtain ⟨hz, hf⟩ := h
  obtain ⟨v0, e0, x0, rfl, b0⟩ := hf 0 _ rfl
  obtain ⟨v1, e1, x1, rfl, b1⟩ := hf 1 _ rfl
  obtain ⟨v2, e2, x2, rfl, b2⟩ := hf 2 _ rfl
  have c0 := bounds_u64 b0
  have c1 := bounds_i64 b1
  have c2 := bounds_i64 b2
  refine ⟨x0.toNat, x1, x2, ?_, by omega, c1, c2⟩
  have hx : ((x0.toNat : Nat) : Int) = x0 := by omega
  rw [hx]
  apply Array.ext
  · simpa using hz
  · intro i h1 h2
    have h3 : i < 3 := by simpa using h2
    rcases (show i = 0 ∨ i = 1 ∨ i = 2 by omega) with rfl | rfl | rfl
    · rw [Array.getElem?_eq_getElem h1] at e0; simpa using Option.some.inj e0
    · rw [Array.getElem?_eq_getElem h1] at e1; simpa using Option.some.inj e1
    · rw [Array.getElem?_eq_getElem h1] at e2; simpa using Option.some.inj e2
theorem pending_any (l c n : Int) (w : World) : Calls Tryd.prog 11 #[.agg #[.int .u64 l, .int .i64 c, .int .i64 n]] w fun e w' => e = .returned (.bool (n != c)) ∧ Below w.heap.size w w' := by
  have hb0 : Below w.heap.size w (w.alloc (.cells #[.int .u64 l, .int .i64 c, .int .i64 n] 25)) := (Below.refl _ _).alloc (Nat.le_refl _) _
  obtain ⟨b, hb⟩ : ∃ b, (n != c) = b := ⟨_, rfl⟩
  rw [hb]
  have HB0 := Lib.hid hb0
  clear hb0
  go_enter Tryd.func11, Tryd.ntmps11
  go_wp2
  go_ret
  exact ⟨rfl, HB0.out⟩
set_option maxRecDepth 8000 in
set_option maxHeartbeats 6400000 in
theorem walk (a0 : Option Addr) (len0 cap0 : Nat) (z0 : List Int) (a1 : Array Value) (w : World) (w0 : IsRow .u8 w a0 len0 cap0 z0) (w1 : IsAgg w [.one (.int .u64), .one (.int .i64), .one (.int .i64)] a1) (hn : Go.Proofs.YtkikghmigjkjiaaDoor.Flt.Names w ∧ Go.Proofs.YtkikghmigjkjiaaDoor.Sta.Tab w) :
    Calls Tryd.prog 3 #[.slice a0 len0 cap0, .agg a1] w fun e w' => e = .returned (.bool true) ∧ Below w.heap.size w w' := by
  have HN := Lib.hid hn.1
  have HT := Lib.hid hn.2
  clear hn
  obtain ⟨xs, hxs, hxr, hnil, hlc⟩ := bytes_of w0
  obtain ⟨l, c, n, rfl, hl64, hc64, hn64⟩ := status_of w1
  clear w0 w1
  have hb0 : Below w.heap.size w (w.alloc (.cells #[.int .u64 l, .int .i64 c, .int .i64 n] 25)) := (Below.refl _ _).alloc (Nat.le_refl _) _
  have hr0 := heap_alloc_new w (.cells #[.int .u64 l, .int .i64 c, .int .i64 n] 25)
  obtain ⟨W0, hW0⟩ : ∃ W, w.alloc (.cells #[.int .u64 l, .int .i64 c, .int .i64 n] 25) = W := ⟨_, rfl⟩
  obtain ⟨B0, hB0⟩ : ∃ B, w.heap.size = B := ⟨_, rfl⟩
  rw [hW0] at hb0 hr0
  rw [hB0] at hr0
  have HW0 := Lib.hid hW0
  have HBE := Lib.hid hB0
  have HB0 := Lib.hid hb0
  have HR0 := Lib.hid hr0
  clear hW0 hB0 hb0 hr0
  by_cases hl : 50 < (len0 : Int)
  · have t : decide (50 < (len0 : Int)) = true := decide_eq_true hl
    have t' : decide (50 < len0) = true := decide_eq_true (by omega)
    have HA := Lib.hid (awake_any W0 (tab_kept HT.out HB0.out))
    clear hl hxs hxr hnil hlc hl64 hc64 hn64
    go_enter Tryd.func3, Tryd.ntmps3
    go_upto_region 1 with fail
    rw [HW0.out]
    go_wp2_with (go_at_call 6; refine HA.out.mono ?_; rintro e w' ⟨rfl, hb⟩)
    go_ret
    exact ⟨rfl, HB0.out.trans (hb.mono HB0.out.size)⟩
  have t : decide (50 < (len0 : Int)) = false := decide_eq_false hl
  have t' : decide (50 < len0) = false := decide_eq_false (by omega)
  have HLE : Hid (len0 ≤ 50) := by show _ ≤ _; omega
  have HXB := Lib.hid hxs
  have HCV : Hid (∀ wx, Below w.heap.size w wx → (convert 22 9 (.slice a0 len0 cap0)).run Tryd.prog wx = .ok (.string (strOfNums xs)) wx) := fun w' b => conv_kept hxs b
  obtain ⟨Z, hZ⟩ : ∃ Z, strOfNums xs = Z := ⟨_, rfl⟩
  have HZ := Lib.hid hZ
  rw [hZ] at HCV
  have hzs : Z.size = len0 := by rw [← hZ, strOfNums_size]; exact hxs.1
  have HZS := Lib.hid hzs
  have hzz : (Z.toList == Z.toList) = true := by simp
  have hzz2 : (Z.toList != Z.toList) = false := by simp
  have hc1 := HCV.out _ HB0.out
  by_cases hgood : f4 c = true ∧ f4 n = true
  · obtain ⟨g1, g2⟩ := hgood
    unfold f4 at g1 g2
    simp only [Bool.and_eq_true, decide_eq_true_eq] at g1 g2
    obtain ⟨c, rfl⟩ : ∃ m : Nat, c = (m : Int) := ⟨c.toNat, by omega⟩
    obtain ⟨n, rfl⟩ : ∃ m : Nat, n = (m : Int) := ⟨n.toNat, by omega⟩
    have hP := sput_yes l c n hl64 (by omega) (by omega) a0 len0 cap0 xs W0 (bytes_kept hxs HB0.out) hnil (by omega)
    have hback := st_back l c n hl64 (by omega) (by omega) _ rfl
    have HBY := Lib.hid (fun w => bytes_any l c n hl64 (by omega) (by omega) w)
    have hcat := strOf_append xs (stB l c n)
    have HYL := Lib.hid (stB_len l c n)
    obtain ⟨YL, hYL⟩ : ∃ YL, stB l c n = YL := ⟨_, rfl⟩
    rw [hYL] at hP hback HBY hcat HYL
    obtain ⟨Y, hY⟩ : ∃ Y, strOfNums YL = Y := ⟨_, rfl⟩
    rw [hY] at hback HBY hcat
    rw [hZ] at hcat
    have hys : Y.size = 16 := by rw [← hY, strOfNums_size]; exact HYL.out
    have HG : Hid (∀ w, Calls Tryd.prog 10 #[.string Y] w fun e w' => e = .returned (.tuple #[.agg #[.int .u64 (l : Nat), .int .i64 (c : Nat), .int .i64 (n : Nat)], .nilIface]) ∧ Below w.heap.size w w') := fun w => by
      have h := sget_yes Y hys w
      rw [hback.1, hback.2.1, hback.2.2] at h
      exact h
    have HCAT := Lib.hid hcat
    have HY := Lib.hid hY
    obtain ⟨N, hN⟩ : ∃ N, len0 + 16 = N := ⟨_, rfl⟩
    rw [hN] at hP
    have HNE : Hid (N = len0 + 16) := hN.symm
    have HP := Lib.hid hP
    unfold SYes at HP
    have HXL : Hid (xs.length = len0) := hxs.1
    have p0 : decide ((c : Int) < 0) = false := decide_eq_false (by omega)
    have p1 : decide (4294967295 < (c : Int)) = false := decide_eq_false (by omega)
    have p2 : decide ((n : Int) < 0) = false := decide_eq_false (by omega)
    have p3 : decide (4294967295 < (n : Int)) = false := decide_eq_false (by omega)
    have p4 : decide (4294967295 < c) = false := decide_eq_false (by omega)
    have p5 : decide (4294967295 < n) = false := decide_eq_false (by omega)
    have hsum : ¬ 9223372036854775807 < Z.size + Y.size := by omega
    have hlt1 : decide ((N : Int) < (len0 : Int)) = false := decide_eq_false (by omega)
    have hlt2 : decide (N < len0) = false := decide_eq_false (by omega)
    have hef : ∀ wx : World, (Op.equalIn 10000 33 (.agg #[.int .i64 0, .int .i64 0, .int .i64 0]) (.agg #[.int .i64 0, .int .i64 0, .int .i64 0])).run Tryd.prog wx = .ok true wx := eq_flt 0 0 0
    have hes : ∀ wx : World, (Op.equalIn 10000 25 (.agg #[.int .u64 l, .int .i64 c, .int .i64 n]) (.agg #[.int .u64 l, .int .i64 c, .int .i64 n])).run Tryd.prog wx = .ok true wx := eq_st l c n
    have HPE := Lib.hid (fun w => pending_any l c n w)
    obtain ⟨bp, hbp⟩ : ∃ b, ((n : Int) != (c : Int)) = b := ⟨_, rfl⟩
    have hbb : (bp == bp) = true := by simp
    rw [hbp] at HPE
    have hyy : ((Z ++ Y).toList == (Z ++ Y).toList) = true := by simp
    have hyn : ((Z ++ Y).toList != (Z ++ Y).toList) = false := by simp
    have HO3 := Lib.hid (one_flt 0 0 0)
    clear hl hxs hxr hnil hlc hl64 hc64 hn64 hZ hzs g1 g2 hP hback hcat hYL hY hys hN
    go_enter Tryd.func3, Tryd.ntmps3
    go_upto_region 1 with fail
    rw [HW0.out, HBE.out]
    go_wp2_with ((with_reducible show wpList _ _ _ _ _ _); refine wpList_load_row rfl 25 (.tmp 3) rfl B0 rfl 25 _ (0, 0) _ HR0.out Tryd.underlying25 rfl (by rw [size_st]; rfl) ?_)
    refine HP.out.mono ?_
    rintro e w2 ⟨V, rfl, ho, hb2⟩
    obtain ⟨G, cV, rfl, hG1, hG2, hG3⟩ := own_open ho (by have := HNE.out; omega)
    have hb3 : Below w2.heap.size w2 (w2.alloc (.cells #[.int .i64 0, .int .i64 0, .int .i64 0] 33)) := (Below.refl _ _).alloc (Nat.le_refl _) _
    have hbw := HB0.out.trans (hb2.mono HB0.out.size)
    have hps : PS w B0 w2.heap.size l c n #[.int .i64 0, .int .i64 0, .int .i64 0] (.slice (some ⟨G, 0, none⟩) N cV) N (xs ++ YL) (w2.alloc (.cells #[.int .i64 0, .int .i64 0, .int .i64 0] 33)) :=
      ⟨(hb3.block _ (by have := hb2.size; have := lt_of_block HR0.out; omega)).trans ((hb2.block _ (lt_of_block HR0.out)).trans HR0.out), heap_alloc_new _ _, Byt.owns_kept (owns_base ho HB0.out.size) hb3, hbw.trans (hb3.mono hbw.size)⟩
    obtain ⟨D, hD⟩ : ∃ D, w2.heap.size = D := ⟨_, rfl⟩
    obtain ⟨W, hW⟩ : ∃ W, w2.alloc (.cells #[.int .i64 0, .int .i64 0, .int .i64 0] 33) = W := ⟨_, rfl⟩
    rw [hW, hD] at hps
    have HPS := Lib.hid hps
    have HWW := Lib.hid hW
    have HDD := Lib.hid hD
    have HG3 : Hid (N ≤ cV) := hG3
    clear HP ho hb2 hb3 hbw hc1 HW0 HBE hps hW hD hG1 hG2 hG3
    go_upto_region 6 with fail
    rw [HWW.out, HDD.out]
    clear HWW HDD
    obtain ⟨s0, s1, s2⟩ := HPS.out.sc
    have HPD := Lib.hid HPS.out.drew
    obtain ⟨d0, d1, d2⟩ := HPS.out.fc
    have hcw := HCV.out W HPS.out.below
    have hcd := HCV.out _ HPD.out.below
    go_wp2
    go_region_held3 (fun wx => wx.cell? ⟨D, 0, none⟩ = some (.int .i64 0) ∧ wx.cell? ⟨D, 1, none⟩ = some (.int .i64 0) ∧ wx.cell? ⟨D, 2, none⟩ = some (.int .i64 0) ∧ (convert 22 9 (.slice a0 len0 cap0)).run Tryd.prog wx = .ok (.string Z) wx) (first | (go_keep; done) | exact HKP.out | (refine ⟨?_, ?_, ?_, ?_⟩ <;> assumption))
      (first
        | (go_at_call 8; refine (of_nil _).mono ?_; rintro e w5 ⟨rfl, hb5⟩; (try simp only [fltV]); have HP5 := Lib.hid (HPD.out.keep hb5); have HKP := Lib.hid (k3 HP5.out.fc (HCV.out _ HP5.out.below)); clear hb5)
        | fail)
    clear d0 d1 d2 hcw hcd s0 s1 s2
    have HCW : Hid (∀ W, PS w B0 D l c n #[.int .i64 0, .int .i64 0, .int .i64 0] (.slice (some ⟨G, 0, none⟩) N cV) N (xs ++ YL) W → (convert 22 9 (.slice (some ⟨G, 0, none⟩) N cV)).run Tryd.prog W = .ok (.string (Z ++ Y)) W) := fun W f => by rw [← HCAT.out]; exact conv_ownsS f.own
    obtain ⟨s0, s1, s2⟩ := HP5.out.sc
    have hcv5 := HCW.out _ HP5.out
    have HP6 := Lib.hid HP5.out.drew
    go_wp2
    go_region_held3 (fun wx => wx.cell? ⟨B0, 0, none⟩ = some (.int .u64 l) ∧ wx.cell? ⟨B0, 1, none⟩ = some (.int .i64 c) ∧ wx.cell? ⟨B0, 2, none⟩ = some (.int .i64 n) ∧ (convert 22 9 (.slice (some ⟨G, 0, none⟩) N cV)).run Tryd.prog wx = .ok (.string (Z ++ Y)) wx) (first | (go_keep; done) | exact HKQ.out | (refine ⟨?_, ?_, ?_, ?_⟩ <;> first | assumption | exact HCW.out _ HP6.out))
      (first
        | (go_at_call 9; refine (HBY.out _).mono ?_; rintro e w7 ⟨rfl, hb7⟩; have HP7 := Lib.hid (HP6.out.keep hb7); have HKQ := Lib.hid (k3 HP7.out.sc (HCW.out _ HP7.out)); clear hb7)
        | fail)
    clear s0 s1 s2 hcv5
    have hsl : ∀ wx : World, (Instr.slice 22 (.slice (some ⟨G, 0, none⟩) N cV) (some (.int .i64 (len0 : Int))) none none).run Tryd.prog wx = .ok (.slice (some ⟨G, len0, none⟩) (N - len0) (cV - len0)) wx := fun wx => low_slice wx G len0 N cV (by have := HNE.out; omega) HG3.out
    have hcp := conv_part (c' := cV - len0) HP7.out.own rfl HXL.out (show YL.length = N - len0 by have := HYL.out; have := HNE.out; omega)
    rw [HY.out] at hcp
    go_wp2_with fail
    refine (HG.out _).mono ?_
    rintro e w8 ⟨rfl, hb8⟩
    have hb9 : Below w8.heap.size w8 (w8.alloc (.cells #[.int .u64 l, .int .i64 c, .int .i64 n] 25)) := (Below.refl _ _).alloc (Nat.le_refl _) _
    have hp9 := HP7.out.keep (hb8.trans (hb9.mono hb8.size))
    have ht9 := heap_alloc_new w8 (.cells #[.int .u64 l, .int .i64 c, .int .i64 n] 25)
    obtain ⟨T, hT⟩ : ∃ T, w8.heap.size = T := ⟨_, rfl⟩
    obtain ⟨W9, hW9⟩ : ∃ W, w8.alloc (.cells #[.int .u64 l, .int .i64 c, .int .i64 n] 25) = W := ⟨_, rfl⟩
    rw [hW9] at hp9 ht9
    rw [hT] at ht9
    have HP9 := Lib.hid hp9
    have HT9 := Lib.hid ht9
    have HWW := Lib.hid hW9
    have HTT := Lib.hid hT
    clear hb8 hb9 hp9 ht9 hW9 hT hcp hsl
    go_upto_region 19 with fail
    rw [HWW.out, HTT.out]
    clear HWW HTT
    obtain ⟨s0, s1, s2⟩ := HP9.out.sc
    have HPD9 := Lib.hid HP9.out.drew
    have HTC : Hid (∀ wx, Below W9.heap.size W9 wx → wx.cell? ⟨T, 0, none⟩ = some (.int .u64 l) ∧ wx.cell? ⟨T, 1, none⟩ = some (.int .i64 c) ∧ wx.cell? ⟨T, 2, none⟩ = some (.int .i64 n)) := fun wx b => by
      have h := (b.block _ (lt_of_block HT9.out)).trans HT9.out
      refine ⟨?_, ?_, ?_⟩ <;> (rw [cell_of_row _ _ _ _ _ _ h]; rfl)
    have HWD : Hid (Below W9.heap.size W9 W9.drew) := ⟨rfl, rfl, rfl, Nat.le_refl _, fun _ _ => rfl⟩
    obtain ⟨u0, u1, u2⟩ := HTC.out W9 (Below.refl _ _)
    go_region_held3 (fun wx => (wx.cell? ⟨B0, 0, none⟩ = some (.int .u64 l) ∧ wx.cell? ⟨B0, 1, none⟩ = some (.int .i64 c) ∧ wx.cell? ⟨B0, 2, none⟩ = some (.int .i64 n)) ∧ wx.cell? ⟨T, 0, none⟩ = some (.int .u64 l) ∧ wx.cell? ⟨T, 1, none⟩ = some (.int .i64 c) ∧ wx.cell? ⟨T, 2, none⟩ = some (.int .i64 n)) (first | (go_keep; done) | exact HKR.out | (refine ⟨⟨?_, ?_, ?_⟩, ?_, ?_, ?_⟩ <;> assumption))
      (first
        | (go_at_call 6; refine (awake_any _ (tab_kept HT.out HPA.out.below)).mono ?_; rintro e wb ⟨rfl, hbb9⟩; have HPB := Lib.hid (HPA.out.keep hbb9); have HBB := Lib.hid (HBA.out.trans (hbb9.mono HBA.out.size)); clear HKR; have HKR := Lib.hid (And.intro HPB.out.sc (HTC.out _ HBB.out)); clear hbb9)
        | (go_at_call 11; refine (HPE.out _).mono ?_; rintro e wa ⟨rfl, hba⟩; have HPA := Lib.hid (HPD9.out.keep hba); have HBA := Lib.hid (HWD.out.trans (hba.mono HWD.out.size)); have HKR := Lib.hid (And.intro HPA.out.sc (HTC.out _ HBA.out)); clear hba)
        | fail)
    go_wp2
    go_ret
    exact ⟨rfl, HPB.out.below⟩
  · obtain ⟨k, hk⟩ : ∃ k : Nat, (k = 0 ∧ f4 c = false) ∨ (k = 1 ∧ f4 c = true ∧ f4 n = false) := by
      cases h1 : f4 c with
      | false => exact ⟨0, .inl ⟨rfl, rfl⟩⟩
      | true => exact ⟨1, .inr ⟨rfl, rfl, by cases h2 : f4 n with
        | false => rfl
        | true => exact absurd ⟨h1, h2⟩ hgood⟩⟩
    have HP := Lib.hid (sput_no k l c n hc64 hn64 hk a0 len0 cap0 xs W0 (HN.out.kept HB0.out) (bytes_kept hxs HB0.out) hnil (by omega))
    unfold SNo at HP
    unfold f4 at hk
    obtain ⟨kI, hkI⟩ : ∃ kI : Int, (k : Int) = kI := ⟨_, rfl⟩
    rw [hkI] at HP
    have hcase : (kI = 0 ∧ decide (c < 0) = true) ∨ (kI = 0 ∧ decide (c < 0) = false ∧ decide (4294967295 < c) = true) ∨ (kI = 1 ∧ decide (c < 0) = false ∧ decide (4294967295 < c) = false ∧ decide (n < 0) = true) ∨ (kI = 1 ∧ decide (c < 0) = false ∧ decide (4294967295 < c) = false ∧ decide (n < 0) = false ∧ decide (4294967295 < n) = true) := by
      simp only [decide_eq_true_eq, decide_eq_false_iff_not, Bool.and_eq_false_iff, Bool.and_eq_true] at hk ⊢
      omega
    have hef : ∀ wx : World, (Op.equalIn 10000 33 (.agg #[.int .i64 18, .int .i64 0, .int .i64 kI]) (.agg #[.int .i64 18, .int .i64 0, .int .i64 kI])).run Tryd.prog wx = .ok true wx := eq_flt 18 0 kI
    have HO3 := Lib.hid (fun k : Int => one_flt 18 0 k)
    clear hl hxs hxr hnil hlc hl64 hc64 hn64 hZ hzs hgood hk hkI
    go_enter Tryd.func3, Tryd.ntmps3
    go_upto_region 1 with fail
    rw [HW0.out, HBE.out]
    go_wp2_with ((with_reducible show wpList _ _ _ _ _ _); refine wpList_load_row rfl 25 (.tmp 3) rfl B0 rfl 25 _ (0, 0) _ HR0.out Tryd.underlying25 rfl (by rw [size_st]; rfl) ?_)
    refine HP.out.mono ?_
    rintro e w2 ⟨V, x, rfl, ho, hf, hb2⟩
    obtain ⟨u, y, rfl⟩ : ∃ u y, x = .iface u y := by obtain ⟨g, y, e, _⟩ := hf; exact ⟨_, _, e⟩
    have hb3 : Below w2.heap.size w2 ((w2.alloc (.cells #[.int .i64 0, .int .i64 0, .int .i64 0] 33)).setRow w2.heap.size #[.int .i64 18, .int .i64 0, .int .i64 kI]) := below_put ((Below.refl _ _).alloc (Nat.le_refl _) _) _
    have hb3' : Below w2.heap.size w2 (w2.alloc (.cells #[.int .i64 0, .int .i64 0, .int .i64 0] 33)) := (Below.refl _ _).alloc (Nat.le_refl _) _
    have hbw := HB0.out.trans (hb2.mono HB0.out.size)
    have HPS : Hid (PS w B0 w2.heap.size l c n #[.int .i64 18, .int .i64 0, .int .i64 kI] V len0 xs ((w2.alloc (.cells #[.int .i64 0, .int .i64 0, .int .i64 0] 33)).setRow w2.heap.size #[.int .i64 18, .int .i64 0, .int .i64 kI])) :=
      ⟨(hb3.block _ (by have := hb2.size; have := lt_of_block HR0.out; omega)).trans ((hb2.block _ (lt_of_block HR0.out)).trans HR0.out), setRow_heap _ _ _ _ _ _ (heap_alloc_new _ _), Byt.owns_kept (owns_base ho HB0.out.size) hb3, hbw.trans (hb3.mono hbw.size)⟩
    have HF := Lib.hid (hf.kept hb3)
    have HM := Lib.hid (heap_alloc_new w2 (.cells #[.int .i64 0, .int .i64 0, .int .i64 0] 33))
    have HST := (hb3'.block _ (by have := hb2.size; have := lt_of_block HR0.out; omega)).trans ((hb2.block _ (lt_of_block HR0.out)).trans HR0.out)
    have s1 := cell_of_row _ _ 1 _ _ _ HST
    have s2 := cell_of_row _ _ 2 _ _ _ HST
    simp only [List.getElem?_toArray, List.getElem?_cons_zero, List.getElem?_cons_succ] at s1 s2
    clear HP ho hf hb2 hb3 hb3' hbw hc1 HST HW0 HBE
    rcases hcase with h | h | h | h
    · obtain ⟨rfl, p0⟩ := h
      go_wp2_with (first
        | ((with_reducible show wpList _ _ _ _ _ _); refine wpList_store_row rfl 33 (.tmp 8) (.tmp 32) rfl w2.heap.size #[.int .i64 18, .int .i64 0, .int .i64 0] rfl rfl 33 #[.int .i64 0, .int .i64 0, .int .i64 0] HM.out (by rw [size_flt]; rfl) rfl (HO3.out 0) ?_)
        | ((with_reducible show wpList _ _ _ _ _ _); refine wpList_store_row rfl 33 (.tmp 8) (.tmp 41) rfl w2.heap.size #[.int .i64 18, .int .i64 0, .int .i64 1] rfl rfl 33 #[.int .i64 0, .int .i64 0, .int .i64 0] HM.out (by rw [size_flt]; rfl) rfl (HO3.out 1) ?_))
      generalize hW4 : (World.setRow _ w2.heap.size #[.int .i64 18, .int .i64 0, _]) = W at HPS HF
      obtain ⟨D, hD⟩ : ∃ D, w2.heap.size = D := ⟨_, rfl⟩
      rw [hD] at HPS
      try rw [hW4]
      rw [hD]
      clear hW4 hD s1 s2 HM
      have HPD := Lib.hid HPS.out.drew
      have HFD := Lib.hid (IsFault.kept (show Below W.heap.size W W.drew from ⟨rfl, rfl, rfl, Nat.le_refl _, fun _ _ => rfl⟩) HF.out)
      obtain ⟨d0, d1, d2⟩ := HPS.out.fc
      have hcw := HCV.out W HPS.out.below
      have hcd := HCV.out _ HPD.out.below
      go_region_held3 (fun wx => wx.cell? ⟨D, 0, none⟩ = some (.int .i64 18) ∧ wx.cell? ⟨D, 1, none⟩ = some (.int .i64 0) ∧ wx.cell? ⟨D, 2, none⟩ = some (.int .i64 0) ∧ (convert 22 9 (.slice a0 len0 cap0)).run Tryd.prog wx = .ok (.string Z) wx) (first | (go_keep; done) | exact HKP.out | (refine ⟨?_, ?_, ?_, ?_⟩ <;> assumption))
        (first
          | (go_at_call 8; refine (of_any _ _ _ _ HFD.out (by simp)).mono ?_; rintro e w5 ⟨rfl, hb5⟩; (try simp only [fltV, secOf, atOf]); have HP5 := Lib.hid (HPD.out.keep hb5); have HKP := Lib.hid (k3 HP5.out.fc (HCV.out _ HP5.out.below)); clear hb5)
          | fail)
      have hcv5 := conv_ownsS HP5.out.own
      rw [HZ.out] at hcv5
      clear d0 d1 d2 hcw hcd
      go_wp2_with (go_at_call 6; refine (awake_any _ (tab_kept HT.out HP5.out.below)).mono ?_; rintro e w9 ⟨rfl, hb9⟩; have HB9 := Lib.hid (HP5.out.below.trans (hb9.mono HP5.out.below.size)); clear hb9)
      go_ret
      exact ⟨rfl, HB9.out⟩
    · obtain ⟨rfl, p0, p1⟩ := h
      go_wp2_with (first
        | ((with_reducible show wpList _ _ _ _ _ _); refine wpList_store_row rfl 33 (.tmp 8) (.tmp 32) rfl w2.heap.size #[.int .i64 18, .int .i64 0, .int .i64 0] rfl rfl 33 #[.int .i64 0, .int .i64 0, .int .i64 0] HM.out (by rw [size_flt]; rfl) rfl (HO3.out 0) ?_)
        | ((with_reducible show wpList _ _ _ _ _ _); refine wpList_store_row rfl 33 (.tmp 8) (.tmp 41) rfl w2.heap.size #[.int .i64 18, .int .i64 0, .int .i64 1] rfl rfl 33 #[.int .i64 0, .int .i64 0, .int .i64 0] HM.out (by rw [size_flt]; rfl) rfl (HO3.out 1) ?_))
      generalize hW4 : (World.setRow _ w2.heap.size #[.int .i64 18, .int .i64 0, _]) = W at HPS HF
      obtain ⟨D, hD⟩ : ∃ D, w2.heap.size = D := ⟨_, rfl⟩
      rw [hD] at HPS
      try rw [hW4]
      rw [hD]
      clear hW4 hD s1 s2 HM
      have HPD := Lib.hid HPS.out.drew
      have HFD := Lib.hid (IsFault.kept (show Below W.heap.size W W.drew from ⟨rfl, rfl, rfl, Nat.le_refl _, fun _ _ => rfl⟩) HF.out)
      obtain ⟨d0, d1, d2⟩ := HPS.out.fc
      have hcw := HCV.out W HPS.out.below
      have hcd := HCV.out _ HPD.out.below
      go_region_held3 (fun wx => wx.cell? ⟨D, 0, none⟩ = some (.int .i64 18) ∧ wx.cell? ⟨D, 1, none⟩ = some (.int .i64 0) ∧ wx.cell? ⟨D, 2, none⟩ = some (.int .i64 0) ∧ (convert 22 9 (.slice a0 len0 cap0)).run Tryd.prog wx = .ok (.string Z) wx) (first | (go_keep; done) | exact HKP.out | (refine ⟨?_, ?_, ?_, ?_⟩ <;> assumption))
        (first
          | (go_at_call 8; refine (of_any _ _ _ _ HFD.out (by simp)).mono ?_; rintro e w5 ⟨rfl, hb5⟩; (try simp only [fltV, secOf, atOf]); have HP5 := Lib.hid (HPD.out.keep hb5); have HKP := Lib.hid (k3 HP5.out.fc (HCV.out _ HP5.out.below)); clear hb5)
          | fail)
      have hcv5 := conv_ownsS HP5.out.own
      rw [HZ.out] at hcv5
      clear d0 d1 d2 hcw hcd
      go_wp2_with (go_at_call 6; refine (awake_any _ (tab_kept HT.out HP5.out.below)).mono ?_; rintro e w9 ⟨rfl, hb9⟩; have HB9 := Lib.hid (HP5.out.below.trans (hb9.mono HP5.out.below.size)); clear hb9)
      go_ret
      exact ⟨rfl, HB9.out⟩
    · obtain ⟨rfl, p0, p1, p2⟩ := h
      go_wp2_with (first
        | ((with_reducible show wpList _ _ _ _ _ _); refine wpList_store_row rfl 33 (.tmp 8) (.tmp 32) rfl w2.heap.size #[.int .i64 18, .int .i64 0, .int .i64 0] rfl rfl 33 #[.int .i64 0, .int .i64 0, .int .i64 0] HM.out (by rw [size_flt]; rfl) rfl (HO3.out 0) ?_)
        | ((with_reducible show wpList _ _ _ _ _ _); refine wpList_store_row rfl 33 (.tmp 8) (.tmp 41) rfl w2.heap.size #[.int .i64 18, .int .i64 0, .int .i64 1] rfl rfl 33 #[.int .i64 0, .int .i64 0, .int .i64 0] HM.out (by rw [size_flt]; rfl) rfl (HO3.out 1) ?_))
      generalize hW4 : (World.setRow _ w2.heap.size #[.int .i64 18, .int .i64 0, _]) = W at HPS HF
      obtain ⟨D, hD⟩ : ∃ D, w2.heap.size = D := ⟨_, rfl⟩
      rw [hD] at HPS
      try rw [hW4]
      rw [hD]
      clear hW4 hD s1 s2 HM
      have HPD := Lib.hid HPS.out.drew
      have HFD := Lib.hid (IsFault.kept (show Below W.heap.size W W.drew from ⟨rfl, rfl, rfl, Nat.le_refl _, fun _ _ => rfl⟩) HF.out)
      obtain ⟨d0, d1, d2⟩ := HPS.out.fc
      have hcw := HCV.out W HPS.out.below
      have hcd := HCV.out _ HPD.out.below
      go_region_held3 (fun wx => wx.cell? ⟨D, 0, none⟩ = some (.int .i64 18) ∧ wx.cell? ⟨D, 1, none⟩ = some (.int .i64 0) ∧ wx.cell? ⟨D, 2, none⟩ = some (.int .i64 1) ∧ (convert 22 9 (.slice a0 len0 cap0)).run Tryd.prog wx = .ok (.string Z) wx) (first | (go_keep; done) | exact HKP.out | (refine ⟨?_, ?_, ?_, ?_⟩ <;> assumption))
        (first
          | (go_at_call 8; refine (of_any _ _ _ _ HFD.out (by simp)).mono ?_; rintro e w5 ⟨rfl, hb5⟩; (try simp only [fltV, secOf, atOf]); have HP5 := Lib.hid (HPD.out.keep hb5); have HKP := Lib.hid (k3 HP5.out.fc (HCV.out _ HP5.out.below)); clear hb5)
          | fail)
      have hcv5 := conv_ownsS HP5.out.own
      rw [HZ.out] at hcv5
      clear d0 d1 d2 hcw hcd
      go_wp2_with (go_at_call 6; refine (awake_any _ (tab_kept HT.out HP5.out.below)).mono ?_; rintro e w9 ⟨rfl, hb9⟩; have HB9 := Lib.hid (HP5.out.below.trans (hb9.mono HP5.out.below.size)); clear hb9)
      go_ret
      exact ⟨rfl, HB9.out⟩
    · obtain ⟨rfl, p0, p1, p2, p3⟩ := h
      go_wp2_with (first
        | ((with_reducible show wpList _ _ _ _ _ _); refine wpList_store_row rfl 33 (.tmp 8) (.tmp 32) rfl w2.heap.size #[.int .i64 18, .int .i64 0, .int .i64 0] rfl rfl 33 #[.int .i64 0, .int .i64 0, .int .i64 0] HM.out (by rw [size_flt]; rfl) rfl (HO3.out 0) ?_)
        | ((with_reducible show wpList _ _ _ _ _ _); refine wpList_store_row rfl 33 (.tmp 8) (.tmp 41) rfl w2.heap.size #[.int .i64 18, .int .i64 0, .int .i64 1] rfl rfl 33 #[.int .i64 0, .int .i64 0, .int .i64 0] HM.out (by rw [size_flt]; rfl) rfl (HO3.out 1) ?_))
      generalize hW4 : (World.setRow _ w2.heap.size #[.int .i64 18, .int .i64 0, _]) = W at HPS HF
      obtain ⟨D, hD⟩ : ∃ D, w2.heap.size = D := ⟨_, rfl⟩
      rw [hD] at HPS
      try rw [hW4]
      rw [hD]
      clear hW4 hD s1 s2 HM
      have HPD := Lib.hid HPS.out.drew
      have HFD := Lib.hid (IsFault.kept (show Below W.heap.size W W.drew from ⟨rfl, rfl, rfl, Nat.le_refl _, fun _ _ => rfl⟩) HF.out)
      obtain ⟨d0, d1, d2⟩ := HPS.out.fc
      have hcw := HCV.out W HPS.out.below
      have hcd := HCV.out _ HPD.out.below
      go_region_held3 (fun wx => wx.cell? ⟨D, 0, none⟩ = some (.int .i64 18) ∧ wx.cell? ⟨D, 1, none⟩ = some (.int .i64 0) ∧ wx.cell? ⟨D, 2, none⟩ = some (.int .i64 1) ∧ (convert 22 9 (.slice a0 len0 cap0)).run Tryd.prog wx = .ok (.string Z) wx) (first | (go_keep; done) | exact HKP.out | (refine ⟨?_, ?_, ?_, ?_⟩ <;> assumption))
        (first
          | (go_at_call 8; refine (of_any _ _ _ _ HFD.out (by simp)).mono ?_; rintro e w5 ⟨rfl, hb5⟩; (try simp only [fltV, secOf, atOf]); have HP5 := Lib.hid (HPD.out.keep hb5); have HKP := Lib.hid (k3 HP5.out.fc (HCV.out _ HP5.out.below)); clear hb5)
          | fail)
      have hcv5 := conv_ownsS HP5.out.own
      rw [HZ.out] at hcv5
      clear d0 d1 d2 hcw hcd
      go_wp2_with (go_at_call 6; refine (awake_any _ (tab_kept HT.out HP5.out.below)).mono ?_; rintro e w9 ⟨rfl, hb9⟩; have HB9 := Lib.hid (HP5.out.below.trans (hb9.mono HP5.out.below.size)); clear hb9)
      go_ret
      exact ⟨rfl, HB9.out⟩

end Go.Proofs.YtkikghmigjkjiaaDoor.statusPuts
