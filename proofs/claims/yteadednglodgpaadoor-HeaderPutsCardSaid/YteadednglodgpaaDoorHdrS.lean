
/- The document's bytes of a header. No condition but that its numbers fit. -/

import Derived.Test.YteadednglodgpaaDoorHdrQ

import Derived.Deep.RegionHeld3

namespace Go.Proofs.YteadednglodgpaaDoor.Hdr

open Go.RowKit Go.PlainAid Go.Proofs.YteadednglodgpaaDoor.Oct Go.Proofs.YteadednglodgpaaDoor.Flt Go.Proofs.YteadednglodgpaaDoor.Rdr Go.Proofs.YteadednglodgpaaDoor.Byt

set_option linter.unusedVariables false

set_option linter.unusedSimpArgs false

theorem acc_cat (F : Nat → Nat × Nat) (k : Nat) : strOfNums (accB F k) ++ strOfNums (low (F k).1 (F k).2) = strOfNums (accB F (k + 1)) := by rw [accB, strOf_append]
abbrev C7 (B tot ep fi a b c d : Nat) (wx : World) : Prop := wx.cell? ⟨B, 0, none⟩ = some (.int .u32 tot) ∧ wx.cell? ⟨B, 1, none⟩ = some (.int .u64 ep) ∧ wx.cell? ⟨B, 2, none⟩ = some (.int .i64 fi) ∧ wx.cell? ⟨B, 3, none⟩ = some (.int .i64 a) ∧ wx.cell? ⟨B, 4, none⟩ = some (.int .i64 b) ∧ wx.cell? ⟨B, 5, none⟩ = some (.int .i64 c) ∧ wx.cell? ⟨B, 6, none⟩ = some (.int .i64 d)
set_option maxRecDepth 8000 in
set_option maxHeartbeats 3200000 in
theorem rtexth_any (tot ep fi a b c d : Nat) (ht : tot ≤ 4294967295) (he : ep ≤ 18446744073709551615) (hfi : fi ≤ 255) (ha : a ≤ 32) (hb : b ≤ 16) (hc : c ≤ 240) (hd : d ≤ 512) (w : World) :
    Calls Tryd.prog 14 #[.agg #[.int .u32 tot, .int .u64 ep, .int .i64 fi, .int .i64 a, .int .i64 b, .int .i64 c, .int .i64 d]] w fun e w' => e = .returned (.string (hB (fldF tot ep fi a b c d))) ∧ Below w.heap.size w w' := by
  obtain ⟨F, hF⟩ : ∃ F, fldF tot ep fi a b c d = F := ⟨_, rfl⟩
  have hz : ∀ k, k ≤ 7 → (strOfNums (accB F k)).size ≤ 23 := by
    intro k hk
    rw [← hF, strOfNums_size]
    rcases (show k = 0 ∨ k = 1 ∨ k = 2 ∨ k = 3 ∨ k = 4 ∨ k = 5 ∨ k = 6 ∨ k = 7 by omega) with rfl | rfl | rfl | rfl | rfl | rfl | rfl | rfl <;> simp [accB, fldF, low_length]
  have hz2 : ∀ k, k < 7 → (strOfNums (low (F k).1 (F k).2)).size ≤ 8 := by
    intro k hk
    rw [← hF, strOfNums_size, low_length]
    rcases (show k = 0 ∨ k = 1 ∨ k = 2 ∨ k = 3 ∨ k = 4 ∨ k = 5 ∨ k = 6 by omega) with rfl | rfl | rfl | rfl | rfl | rfl | rfl <;> simp [fldF]
  have T0 : Hid (∀ w, Calls Tryd.prog 42 #[.int .u64 tot, .int .i64 4] w fun e w' => e = .returned (.string (strOfNums (low (F 0).1 (F 0).2))) ∧ Below w.heap.size w w') := fun w => by
    rw [show (F 0).1 = tot by rw [← hF]; rfl, show (F 0).2 = 4 by rw [← hF]; rfl]; exact text_any tot 4 (by omega) (by omega) w
  have c0 := acc_cat F 0
  have z0 : ¬ 9223372036854775807 < (strOfNums (accB F 0)).size + (strOfNums (low (F 0).1 (F 0).2)).size := by have := hz 0 (by omega); have := hz2 0 (by omega); omega
  have T1 : Hid (∀ w, Calls Tryd.prog 42 #[.int .u64 ep, .int .i64 8] w fun e w' => e = .returned (.string (strOfNums (low (F 1).1 (F 1).2))) ∧ Below w.heap.size w w') := fun w => by
    rw [show (F 1).1 = ep by rw [← hF]; rfl, show (F 1).2 = 8 by rw [← hF]; rfl]; exact text_any ep 8 (by omega) (by omega) w
  have c1 := acc_cat F 1
  have z1 : ¬ 9223372036854775807 < (strOfNums (accB F 1)).size + (strOfNums (low (F 1).1 (F 1).2)).size := by have := hz 1 (by omega); have := hz2 1 (by omega); omega
  have T2 : Hid (∀ w, Calls Tryd.prog 42 #[.int .u64 fi, .int .i64 1] w fun e w' => e = .returned (.string (strOfNums (low (F 2).1 (F 2).2))) ∧ Below w.heap.size w w') := fun w => by
    rw [show (F 2).1 = fi by rw [← hF]; rfl, show (F 2).2 = 1 by rw [← hF]; rfl]; exact text_any fi 1 (by omega) (by omega) w
  have c2 := acc_cat F 2
  have z2 : ¬ 9223372036854775807 < (strOfNums (accB F 2)).size + (strOfNums (low (F 2).1 (F 2).2)).size := by have := hz 2 (by omega); have := hz2 2 (by omega); omega
  have T3 : Hid (∀ w, Calls Tryd.prog 42 #[.int .u64 a, .int .i64 1] w fun e w' => e = .returned (.string (strOfNums (low (F 3).1 (F 3).2))) ∧ Below w.heap.size w w') := fun w => by
    rw [show (F 3).1 = a by rw [← hF]; rfl, show (F 3).2 = 1 by rw [← hF]; rfl]; exact text_any a 1 (by omega) (by omega) w
  have c3 := acc_cat F 3
  have z3 : ¬ 9223372036854775807 < (strOfNums (accB F 3)).size + (strOfNums (low (F 3).1 (F 3).2)).size := by have := hz 3 (by omega); have := hz2 3 (by omega); omega
  have T4 : Hid (∀ w, Calls Tryd.prog 42 #[.int .u64 b, .int .i64 1] w fun e w' => e = .returned (.string (strOfNums (low (F 4).1 (F 4).2))) ∧ Below w.heap.size w w') := fun w => by
    rw [show (F 4).1 = b by rw [← hF]; rfl, show (F 4).2 = 1 by rw [← hF]; rfl]; exact text_any b 1 (by omega) (by omega) w
  have c4 := acc_cat F 4
  have z4 : ¬ 9223372036854775807 < (strOfNums (accB F 4)).size + (strOfNums (low (F 4).1 (F 4).2)).size := by have := hz 4 (by omega); have := hz2 4 (by omega); omega
  have T5 : Hid (∀ w, Calls Tryd.prog 42 #[.int .u64 c, .int .i64 2] w fun e w' => e = .returned (.string (strOfNums (low (F 5).1 (F 5).2))) ∧ Below w.heap.size w w') := fun w => by
    rw [show (F 5).1 = c by rw [← hF]; rfl, show (F 5).2 = 2 by rw [← hF]; rfl]; exact text_any c 2 (by omega) (by omega) w
  have c5 := acc_cat F 5
  have z5 : ¬ 9223372036854775807 < (strOfNums (accB F 5)).size + (strOfNums (low (F 5).1 (F 5).2)).size := by have := hz 5 (by omega); have := hz2 5 (by omega); omega
  have T6 : Hid (∀ w, Calls Tryd.prog 42 #[.int .u64 d, .int .i64 2] w fun e w' => e = .returned (.string (strOfNums (low (F 6).1 (F 6).2))) ∧ Below w.heap.size w w') := fun w => by
    rw [show (F 6).1 = d by rw [← hF]; rfl, show (F 6).2 = 2 by rw [← hF]; rfl]; exact text_any d 2 (by omega) (by omega) w
  have c6 := acc_cat F 6
  have z6 : ¬ 9223372036854775807 < (strOfNums (accB F 6)).size + (strOfNums (low (F 6).1 (F 6).2)).size := by have := hz 6 (by omega); have := hz2 6 (by omega); omega
  have s0 : strOfNums (accB F 0) = ⟨#[67, 87, 77, 49]⟩ := by show strOfNums [67, 87, 77, 49] = _; decide
  have s7 : hB F = strOfNums (accB F 7) := rfl
  rw [hF, s7]
  obtain ⟨X0, x0⟩ : ∃ X, strOfNums (low (F 0).1 (F 0).2) = X := ⟨_, rfl⟩
  obtain ⟨X1, x1⟩ : ∃ X, strOfNums (low (F 1).1 (F 1).2) = X := ⟨_, rfl⟩
  obtain ⟨X2, x2⟩ : ∃ X, strOfNums (low (F 2).1 (F 2).2) = X := ⟨_, rfl⟩
  obtain ⟨X3, x3⟩ : ∃ X, strOfNums (low (F 3).1 (F 3).2) = X := ⟨_, rfl⟩
  obtain ⟨X4, x4⟩ : ∃ X, strOfNums (low (F 4).1 (F 4).2) = X := ⟨_, rfl⟩
  obtain ⟨X5, x5⟩ : ∃ X, strOfNums (low (F 5).1 (F 5).2) = X := ⟨_, rfl⟩
  obtain ⟨X6, x6⟩ : ∃ X, strOfNums (low (F 6).1 (F 6).2) = X := ⟨_, rfl⟩
  obtain ⟨Y0, y0⟩ : ∃ X, strOfNums (accB F 0) = X := ⟨_, rfl⟩
  obtain ⟨Y1, y1⟩ : ∃ X, strOfNums (accB F 1) = X := ⟨_, rfl⟩
  obtain ⟨Y2, y2⟩ : ∃ X, strOfNums (accB F 2) = X := ⟨_, rfl⟩
  obtain ⟨Y3, y3⟩ : ∃ X, strOfNums (accB F 3) = X := ⟨_, rfl⟩
  obtain ⟨Y4, y4⟩ : ∃ X, strOfNums (accB F 4) = X := ⟨_, rfl⟩
  obtain ⟨Y5, y5⟩ : ∃ X, strOfNums (accB F 5) = X := ⟨_, rfl⟩
  obtain ⟨Y6, y6⟩ : ∃ X, strOfNums (accB F 6) = X := ⟨_, rfl⟩
  obtain ⟨Y7, y7⟩ : ∃ X, strOfNums (accB F 7) = X := ⟨_, rfl⟩
  rw [x0] at T0 c0 z0
  rw [y0, y1] at c0
  rw [y0] at z0
  rw [x1] at T1 c1 z1
  rw [y1, y2] at c1
  rw [y1] at z1
  rw [x2] at T2 c2 z2
  rw [y2, y3] at c2
  rw [y2] at z2
  rw [x3] at T3 c3 z3
  rw [y3, y4] at c3
  rw [y3] at z3
  rw [x4] at T4 c4 z4
  rw [y4, y5] at c4
  rw [y4] at z4
  rw [x5] at T5 c5 z5
  rw [y5, y6] at c5
  rw [y5] at z5
  rw [x6] at T6 c6 z6
  rw [y6, y7] at c6
  rw [y6] at z6
  rw [y0] at s0
  rw [y7]
  subst s0
  have z00 : ¬ 9223372036854775807 < 4 + X0.size := z0
  have hw0 : IntKind.u64.wrap (tot : Int) = tot := IntWalk.u64_in _ (by omega)
  have hw2 : IntKind.u64.wrap (fi : Int) = fi := IntWalk.u64_in _ (by omega)
  have hw3 : IntKind.u64.wrap (a : Int) = a := IntWalk.u64_in _ (by omega)
  have hw4 : IntKind.u64.wrap (b : Int) = b := IntWalk.u64_in _ (by omega)
  have hw5 : IntKind.u64.wrap (c : Int) = c := IntWalk.u64_in _ (by omega)
  have hw6 : IntKind.u64.wrap (d : Int) = d := IntWalk.u64_in _ (by omega)
  have hr0 := heap_alloc_new w (.cells #[.int .u32 tot, .int .u64 ep, .int .i64 fi, .int .i64 a, .int .i64 b, .int .i64 c, .int .i64 d] 36)
  have HB0 : Hid (Below w.heap.size w (w.alloc (.cells #[.int .u32 tot, .int .u64 ep, .int .i64 fi, .int .i64 a, .int .i64 b, .int .i64 c, .int .i64 d] 36))) := (Below.refl _ _).alloc (Nat.le_refl _) _
  have hcc : ∀ wx : World, wx.heap[w.heap.size]? = some (.cells #[.int .u32 tot, .int .u64 ep, .int .i64 fi, .int .i64 a, .int .i64 b, .int .i64 c, .int .i64 d] 36 (0, 0)) → C7 w.heap.size tot ep fi a b c d wx := by
    intro wx h
    refine ⟨?_, ?_, ?_, ?_, ?_, ?_, ?_⟩
    all_goals (rw [cell_of_row wx _ _ _ _ _ h]; rfl)
  have HC := Lib.hid hcc
  have HR0 := Lib.hid hr0
  obtain ⟨d0, d1, d2, d3, d4, d5, d6⟩ := hcc _ hr0
  have HD : Hid (∀ w1, Below (w.alloc (.cells #[.int .u32 tot, .int .u64 ep, .int .i64 fi, .int .i64 a, .int .i64 b, .int .i64 c, .int .i64 d] 36)).drew.heap.size (w.alloc (.cells #[.int .u32 tot, .int .u64 ep, .int .i64 fi, .int .i64 a, .int .i64 b, .int .i64 c, .int .i64 d] 36)).drew w1 → w1.heap[w.heap.size]? = some (.cells #[.int .u32 tot, .int .u64 ep, .int .i64 fi, .int .i64 a, .int .i64 b, .int .i64 c, .int .i64 d] 36 (0, 0)) ∧ Below w.heap.size w w1) := by
    intro w1 bq
    have b' : Below (w.alloc (.cells #[.int .u32 tot, .int .u64 ep, .int .i64 fi, .int .i64 a, .int .i64 b, .int .i64 c, .int .i64 d] 36)).heap.size (w.alloc (.cells #[.int .u32 tot, .int .u64 ep, .int .i64 fi, .int .i64 a, .int .i64 b, .int .i64 c, .int .i64 d] 36)) w1 := ⟨bq.os, bq.tape, bq.output, bq.size, bq.block⟩
    exact ⟨(b'.block _ (lt_of_block hr0)).trans hr0, HB0.out.trans (b'.mono HB0.out.size)⟩
  clear hz hz2 hF s7 ht he hfi ha hb hc hd hr0 hcc x0 y0 x1 y1 x2 y2 x3 y3 x4 y4 x5 y5 x6 y6 y7
  go_enter Tryd.func14, Tryd.ntmps14
  go_wp2_with fail
  go_region_held3 (fun wx => wx.cell? ⟨w.heap.size, 0, none⟩ = some (.int .u32 tot) ∧ wx.cell? ⟨w.heap.size, 1, none⟩ = some (.int .u64 ep) ∧ wx.cell? ⟨w.heap.size, 2, none⟩ = some (.int .i64 fi) ∧ wx.cell? ⟨w.heap.size, 3, none⟩ = some (.int .i64 a) ∧ wx.cell? ⟨w.heap.size, 4, none⟩ = some (.int .i64 b) ∧ wx.cell? ⟨w.heap.size, 5, none⟩ = some (.int .i64 c) ∧ wx.cell? ⟨w.heap.size, 6, none⟩ = some (.int .i64 d)) (first | (go_keep; done) | exact HKP.out)
    (first
      | (go_at_call 42; ((with_reducible refine (T0.out _).mono ?_); rintro e w1 ⟨rfl, hb1⟩); have hq := HD.out w1 (by exact hb1); have HR1 := Lib.hid hq.1; have HB1 := Lib.hid hq.2; have HKP := Lib.hid (HC.out w1 hq.1); clear hb1 hq)
      | (go_at_call 42; ((with_reducible refine (T1.out _).mono ?_); rintro e w2 ⟨rfl, hb2⟩); have hq1 := (hb2.block _ (lt_of_block HR1.out)).trans HR1.out; have hq2 := HB1.out.trans (hb2.mono HB1.out.size); have HR2 := Lib.hid hq1; have HB2 := Lib.hid hq2; have HKP := Lib.hid (HC.out w2 hq1); clear hb2 hq1 hq2)
      | (go_at_call 42; ((with_reducible refine (T2.out _).mono ?_); rintro e w3 ⟨rfl, hb3⟩); have hq1 := (hb3.block _ (lt_of_block HR2.out)).trans HR2.out; have hq2 := HB2.out.trans (hb3.mono HB2.out.size); have HR3 := Lib.hid hq1; have HB3 := Lib.hid hq2; have HKP := Lib.hid (HC.out w3 hq1); clear hb3 hq1 hq2)
      | (go_at_call 42; ((with_reducible refine (T3.out _).mono ?_); rintro e w4 ⟨rfl, hb4⟩); have hq1 := (hb4.block _ (lt_of_block HR3.out)).trans HR3.out; have hq2 := HB3.out.trans (hb4.mono HB3.out.size); have HR4 := Lib.hid hq1; have HB4 := Lib.hid hq2; have HKP := Lib.hid (HC.out w4 hq1); clear hb4 hq1 hq2)
      | (go_at_call 42; ((with_reducible refine (T4.out _).mono ?_); rintro e w5 ⟨rfl, hb5⟩); have hq1 := (hb5.block _ (lt_of_block HR4.out)).trans HR4.out; have hq2 := HB4.out.trans (hb5.mono HB4.out.size); have HR5 := Lib.hid hq1; have HB5 := Lib.hid hq2; have HKP := Lib.hid (HC.out w5 hq1); clear hb5 hq1 hq2)
      | (go_at_call 42; ((with_reducible refine (T5.out _).mono ?_); rintro e w6 ⟨rfl, hb6⟩); have hq1 := (hb6.block _ (lt_of_block HR5.out)).trans HR5.out; have hq2 := HB5.out.trans (hb6.mono HB5.out.size); have HR6 := Lib.hid hq1; have HB6 := Lib.hid hq2; have HKP := Lib.hid (HC.out w6 hq1); clear hb6 hq1 hq2)
      | (go_at_call 42; ((with_reducible refine (T6.out _).mono ?_); rintro e w7 ⟨rfl, hb7⟩); have hq1 := (hb7.block _ (lt_of_block HR6.out)).trans HR6.out; have hq2 := HB6.out.trans (hb7.mono HB6.out.size); have HR7 := Lib.hid hq1; have HB7 := Lib.hid hq2; have HKP := Lib.hid (HC.out w7 hq1); clear hb7 hq1 hq2)
      | fail)
  go_wp2
  go_ret
  exact ⟨rfl, HB7.out⟩
end Go.Proofs.YteadednglodgpaaDoor.Hdr
