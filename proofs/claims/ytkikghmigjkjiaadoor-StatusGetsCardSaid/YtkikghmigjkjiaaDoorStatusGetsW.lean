
/- The function StatusGets returns true for every text. Condition: the package-level variables hold what the program lays in them (the card ties that). This text: the walk through the Go text; the row is in the text without the W at its name's end. -/

import Derived.Test.YtkikghmigjkjiaaDoorArgs

import Derived.Test.YtkikghmigjkjiaaDoorStaD

import Derived.Test.YtkikghmigjkjiaaDoorStaC

namespace Go.Proofs.YtkikghmigjkjiaaDoor.statusGets

open Go.RowKit Go.PlainAid Go.Proofs.YtkikghmigjkjiaaDoor.Args

set_option linter.unusedVariables false

open Go.Proofs.YtkikghmigjkjiaaDoor.Sta Go.Proofs.YtkikghmigjkjiaaDoor.Oct Go.Proofs.YtkikghmigjkjiaaDoor.Flt

set_option linter.unusedSimpArgs false

theorem eq_st (a b c : Int) (w : World) : (Op.equalIn 10000 25 (.agg #[.int .u64 a, .int .i64 b, .int .i64 c]) (.agg #[.int .u64 a, .int .i64 b, .int .i64 c])).run Tryd.prog w = .ok true w := by
  have hS : Tryd.prog.underlying 25 = some (.struct (Tryd.prog.fieldsOf 25)) := by kernel_rfl
  rw [show (10000 : Nat) = 9999 + 1 from rfl, run_equalIn_agg w 9999 25 _ _ hS (by kernel_rfl)]
  simp only [Program.fieldsOf, Tryd.underlying25]
  go_simp
set_option maxRecDepth 8000 in
set_option maxHeartbeats 3200000 in
theorem walk (a0 : ByteArray) (w : World) (w0 : a0.size ≤ maxLen) (hn : Go.Proofs.YtkikghmigjkjiaaDoor.Flt.Names w ∧ Go.Proofs.YtkikghmigjkjiaaDoor.Sta.Tab w) :
    Calls Tryd.prog 4 #[.string a0] w fun e w' => e = .returned (.bool true) ∧ Below w.heap.size w w' := by
  have HN := Lib.hid hn.1
  have HT := Lib.hid hn.2
  clear hn
  by_cases hl : 100 < (a0.size : Int)
  · have t : decide (100 < (a0.size : Int)) = true := decide_eq_true hl
    have t' : decide (100 < a0.size) = true := decide_eq_true (by omega)
    have HA := Lib.hid (awake_any w HT.out)
    clear hl w0
    go_enter Tryd.func4, Tryd.ntmps4
    go_wp2_with (go_at_call 6; refine HA.out.mono ?_; rintro e w' ⟨rfl, hb⟩)
    go_ret
    exact ⟨rfl, hb⟩
  have t : decide (100 < (a0.size : Int)) = false := decide_eq_false hl
  have t' : decide (100 < a0.size) = false := decide_eq_false (by omega)
  have hq : ∀ wx : World, (Op.equalIn 10000 25 (.agg #[.int .u64 0, .int .i64 0, .int .i64 0]) (.agg #[.int .u64 0, .int .i64 0, .int .i64 0])).run Tryd.prog wx = .ok true wx := eq_st 0 0 0
  rcases Nat.lt_trichotomy a0.size 16 with h16 | h16 | h16
  · have t1 : decide ((a0.size : Int) < 16) = true := decide_eq_true (by omega)
    have t2 : decide (a0.size < 16) = true := decide_eq_true h16
    have HG := Lib.hid (sget_short a0 h16 w HN.out)
    have hef : ∀ wx : World, (Op.equalIn 10000 33 (.agg #[.int .i64 (2 : Nat), .int .i64 0, .int .i64 a0.size]) (.agg #[.int .i64 2, .int .i64 0, .int .i64 a0.size])).run Tryd.prog wx = .ok true wx := eq_flt 2 0 a0.size
    clear hl w0 h16
    go_enter Tryd.func4, Tryd.ntmps4
    go_wp2_with fail
    refine HG.out.mono ?_
    rintro e w1 ⟨x, rfl, hf, hb1⟩
    have hb2 : Below w1.heap.size w1 (w1.alloc (.cells #[.int .u64 0, .int .i64 0, .int .i64 0] 25)) := (Below.refl _ _).alloc (Nat.le_refl _) _
    have HF := Lib.hid (hf.kept hb2)
    have HR := Lib.hid (heap_alloc_new w1 (.cells #[.int .u64 0, .int .i64 0, .int .i64 0] 25))
    have HB := Lib.hid (hb1.trans (hb2.mono hb1.size))
    have HN2 := Lib.hid (HN.out.kept HB.out)
    have HT2 := Lib.hid (tab_kept HT.out HB.out)
    obtain ⟨u, y, rfl⟩ : ∃ u y, x = .iface u y := by obtain ⟨g, y, e, _⟩ := hf; exact ⟨_, _, e⟩
    clear hb1 hb2 hf HG
    obtain ⟨N, hN⟩ : ∃ N, w1.heap.size = N := ⟨_, rfl⟩
    obtain ⟨W, hW⟩ : ∃ W, w1.alloc (.cells #[.int .u64 0, .int .i64 0, .int .i64 0] 25) = W := ⟨_, rfl⟩
    rw [hW] at HF HR HB HN2 HT2
    rw [hN] at HR
    have HWW := Lib.hid hW
    have HNN := Lib.hid hN
    clear hW hN
    go_upto_region 4 with fail
    rw [HWW.out, HNN.out]
    clear HWW HNN
    go_wp2_with (first
      | ((with_reducible show wpList _ _ _ _ _ _); refine wpList_load_row rfl 25 (.tmp 3) rfl N rfl 25 _ (0, 0) _ HR.out Tryd.underlying25 rfl (by rw [size_st]; rfl) ?_)
      | (go_at_call 8; refine (of_any _ _ _ _ HF.out (by simp)).mono ?_; rintro e w2 ⟨rfl, hb2⟩; (try simp only [fltV, secOf, atOf]); have HB2 := Lib.hid (HB.out.trans (hb2.mono HB.out.size)); clear hb2)
      | (go_at_call 6; refine (awake_any _ (tab_kept HT.out HB2.out)).mono ?_; rintro e w3 ⟨rfl, hb3⟩; have HB3 := Lib.hid (HB2.out.trans (hb3.mono HB2.out.size)); clear hb3))
    go_ret
    exact ⟨rfl, HB3.out⟩
  · have t1 : decide ((a0.size : Int) < 16) = false := decide_eq_false (by omega)
    have t2 : decide (a0.size < 16) = false := decide_eq_false (by omega)
    have t3 : decide (16 < (a0.size : Int)) = false := decide_eq_false (by omega)
    have t4 : decide (16 < a0.size) = false := decide_eq_false (by omega)
    have HG := Lib.hid (sget_yes a0 h16 w)
    have b1 := getN_lt8 a0 0 8 (by omega)
    have b2 := getN_lt a0 8 4
    have b3 := getN_lt a0 12 4
    have HBY := Lib.hid (fun w => bytes_any (getN a0 0 8) (getN a0 8 4) (getN a0 12 4) (by omega) (by omega) (by omega) w)
    rw [st_bytes a0 h16] at HBY
    obtain ⟨l, hl'⟩ : ∃ l, getN a0 0 8 = l := ⟨_, rfl⟩
    obtain ⟨c, hc'⟩ : ∃ l, getN a0 8 4 = l := ⟨_, rfl⟩
    obtain ⟨n, hn'⟩ : ∃ l, getN a0 12 4 = l := ⟨_, rfl⟩
    rw [hl', hc', hn'] at HG HBY
    have hss : (a0.toList == a0.toList) = true := by simp
    clear hl w0 h16 hl' hc' hn' b1 b2 b3
    go_enter Tryd.func4, Tryd.ntmps4
    go_wp2_with fail
    refine HG.out.mono ?_
    rintro e w1 ⟨rfl, hb1⟩
    have hb2 : Below w1.heap.size w1 (w1.alloc (.cells #[.int .u64 l, .int .i64 c, .int .i64 n] 25)) := (Below.refl _ _).alloc (Nat.le_refl _) _
    have HR := Lib.hid (heap_alloc_new w1 (.cells #[.int .u64 l, .int .i64 c, .int .i64 n] 25))
    have HB := Lib.hid (hb1.trans (hb2.mono hb1.size))
    clear hb1 hb2 HG
    obtain ⟨N, hN⟩ : ∃ N, w1.heap.size = N := ⟨_, rfl⟩
    obtain ⟨W, hW⟩ : ∃ W, w1.alloc (.cells #[.int .u64 l, .int .i64 c, .int .i64 n] 25) = W := ⟨_, rfl⟩
    rw [hW] at HR HB
    rw [hN] at HR
    have HWW := Lib.hid hW
    have HNN := Lib.hid hN
    clear hW hN
    go_upto_region 4 with fail
    rw [HWW.out, HNN.out]
    clear HWW HNN
    have d0 := cell_of_row _ _ 0 _ _ _ HR.out
    have d1 := cell_of_row _ _ 1 _ _ _ HR.out
    have d2 := cell_of_row _ _ 2 _ _ _ HR.out
    simp only [List.getElem?_toArray, List.getElem?_cons_zero, List.getElem?_cons_succ] at d0 d1 d2
    go_wp2_with (first
      | ((with_reducible show wpList _ _ _ _ _ _); refine wpList_load_row rfl 25 (.tmp 3) rfl N rfl 25 _ (0, 0) _ HR.out Tryd.underlying25 rfl (by rw [size_st]; rfl) ?_)
      | (go_at_call 9; refine (HBY.out _).mono ?_; rintro e w2 ⟨rfl, hb2⟩; have HB2 := Lib.hid (HB.out.trans (hb2.mono HB.out.size)); clear hb2)
      | (go_at_call 6; refine (awake_any _ (tab_kept HT.out HB2.out)).mono ?_; rintro e w3 ⟨rfl, hb3⟩; have HB3 := Lib.hid (HB2.out.trans (hb3.mono HB2.out.size)); clear hb3))
    go_ret
    exact ⟨rfl, HB3.out⟩
  · have t1 : decide ((a0.size : Int) < 16) = false := decide_eq_false (by omega)
    have t2 : decide (a0.size < 16) = false := decide_eq_false (by omega)
    have t3 : decide (16 < (a0.size : Int)) = true := decide_eq_true (by omega)
    have t4 : decide (16 < a0.size) = true := decide_eq_true h16
    have HG := Lib.hid (sget_long a0 h16 w HN.out)
    have hef : ∀ wx : World, (Op.equalIn 10000 33 (.agg #[.int .i64 (4 : Nat), .int .i64 0, .int .i64 16]) (.agg #[.int .i64 4, .int .i64 0, .int .i64 16])).run Tryd.prog wx = .ok true wx := eq_flt 4 0 16
    clear hl w0 h16
    go_enter Tryd.func4, Tryd.ntmps4
    go_wp2_with fail
    refine HG.out.mono ?_
    rintro e w1 ⟨x, rfl, hf, hb1⟩
    have hb2 : Below w1.heap.size w1 (w1.alloc (.cells #[.int .u64 0, .int .i64 0, .int .i64 0] 25)) := (Below.refl _ _).alloc (Nat.le_refl _) _
    have HF := Lib.hid (hf.kept hb2)
    have HR := Lib.hid (heap_alloc_new w1 (.cells #[.int .u64 0, .int .i64 0, .int .i64 0] 25))
    have HB := Lib.hid (hb1.trans (hb2.mono hb1.size))
    have HN2 := Lib.hid (HN.out.kept HB.out)
    have HT2 := Lib.hid (tab_kept HT.out HB.out)
    obtain ⟨u, y, rfl⟩ : ∃ u y, x = .iface u y := by obtain ⟨g, y, e, _⟩ := hf; exact ⟨_, _, e⟩
    clear hb1 hb2 hf HG
    obtain ⟨N, hN⟩ : ∃ N, w1.heap.size = N := ⟨_, rfl⟩
    obtain ⟨W, hW⟩ : ∃ W, w1.alloc (.cells #[.int .u64 0, .int .i64 0, .int .i64 0] 25) = W := ⟨_, rfl⟩
    rw [hW] at HF HR HB HN2 HT2
    rw [hN] at HR
    have HWW := Lib.hid hW
    have HNN := Lib.hid hN
    clear hW hN
    go_upto_region 4 with fail
    rw [HWW.out, HNN.out]
    clear HWW HNN
    go_wp2_with (first
      | ((with_reducible show wpList _ _ _ _ _ _); refine wpList_load_row rfl 25 (.tmp 3) rfl N rfl 25 _ (0, 0) _ HR.out Tryd.underlying25 rfl (by rw [size_st]; rfl) ?_)
      | (go_at_call 8; refine (of_any _ _ _ _ HF.out (by simp)).mono ?_; rintro e w2 ⟨rfl, hb2⟩; (try simp only [fltV, secOf, atOf]); have HB2 := Lib.hid (HB.out.trans (hb2.mono HB.out.size)); clear hb2)
      | (go_at_call 6; refine (awake_any _ (tab_kept HT.out HB2.out)).mono ?_; rintro e w3 ⟨rfl, hb3⟩; have HB3 := Lib.hid (HB2.out.trans (hb3.mono HB2.out.size)); clear hb3))
    go_ret
    exact ⟨rfl, HB3.out⟩

end Go.Proofs.YtkikghmigjkjiaaDoor.statusGets
