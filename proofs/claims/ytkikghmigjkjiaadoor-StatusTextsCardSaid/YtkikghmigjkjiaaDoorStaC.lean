
/- A status as text: what strconv.FormatUint writes at base 10, package status' Text and the document's, and the chapter's example. Condition: the library's table of powers of ten holds what the library lays there. -/

import Derived.Test.YtkikghmigjkjiaaDoorStaA

import Derived.Shelf.Strconv.Itoa3

import Derived.Deep.Cut

import Derived.Deep.CutBlock

import Derived.Deep.RegionHeld3

namespace Go.Proofs.YtkikghmigjkjiaaDoor.Sta

open Go.RowKit Go.PlainAid Go.Proofs.YtkikghmigjkjiaaDoor.Oct Go.Lib Go.Sort

set_option linter.unusedVariables false

set_option linter.unusedSimpArgs false

abbrev Tab (w : World) : Prop := Lib.TabIs Tryd.prog w "internal/strconv.uint64pow10" .u64 Lib.pow10Tab
theorem tab_kept {w w' : World} (h : Tab w) (b : Below w.heap.size w w') : Tab w' := by
  unfold Tab Lib.TabIs at h ⊢
  rw [← h]
  have hg : ∀ g, Tryd.prog.globalNamed "internal/strconv.uint64pow10" = some g → w'.heap[g]? = w.heap[g]? := by
    intro g hg
    unfold World.var? at h
    rw [hg] at h
    refine b.block g ?_
    rcases Nat.lt_or_ge g w.heap.size with hlt | hge
    · exact hlt
    · simp [Array.getElem?_eq_none hge] at h
  unfold World.var?
  cases hh : Tryd.prog.globalNamed "internal/strconv.uint64pow10" with
  | none => rfl
  | some g =>
    show (match w'.heap[g]? with | some (.cells cs _ _) => some cs | _ => none) = (match w.heap[g]? with | some (.cells cs _ _) => some cs | _ => none)
    rw [hg g hh]
theorem below_grow (w : World) (k : Nat) (os : Array Obj) : Below w.heap.size w (grow (w.drewN k) os) := by
  refine ⟨rfl, rfl, rfl, ?_, fun i hi => ?_⟩
  · show w.heap.size ≤ (w.heap ++ os).size
    simp
  · show (w.heap ++ os)[i]? = w.heap[i]?
    exact Array.getElem?_append_left hi
theorem itoa_any (n : Int) (h : -9223372036854775808 ≤ n ∧ n ≤ 9223372036854775807) (w : World) (ht : Tab w) : Calls Tryd.prog 25 #[.int .i64 n] w fun e w' => e = .returned (.string (itB n)) ∧ Below w.heap.size w w' := by
  refine (Tryd.strconv_Itoa n h.1 h.2 w ht).mono ?_
  rintro e w' ⟨rfl, k, os, rfl⟩
  exact ⟨rfl, below_grow w k os⟩
set_option maxHeartbeats 1600000 in
set_option maxRecDepth 100000 in
theorem uint_in (u : Nat) (hu : u ≤ 18446744073709551615) (w : World) (ht : Tab w) : Calls Tryd.prog 36 #[.int .u64 u, .int .i64 10] w fun e w' => e = .returned (.string (decB u)) ∧ Below w.heap.size w w' := by
  have hw : IntKind.i64.wrap (u : Int) = if u < 9223372036854775808 then (u : Int) else (u : Int) - 18446744073709551616 := by
    rw [IntKind.wrap_i64]; split <;> omega
  by_cases h : u < 100
  · have t1 : decide ((u : Int) < 100) = true := decide_eq_true (by omega)
    have t2 : decide (u < 100) = true := decide_eq_true h
    rw [if_pos (by omega)] at hw
    have HS : Hid (∀ w, Calls Tryd.prog 45 #[.int .i64 u] w fun e w' => e = .returned (.string (decB u)) ∧ w' = w) := fun w => Tryd.internal_strconv_small u h w
    obtain ⟨X, hX⟩ : ∃ X, decB u = X := ⟨_, rfl⟩
    rw [hX] at HS ⊢
    clear hX h hu
    go_enter Tryd.func36, Tryd.ntmps36
    go_wp2_with (go_at_call 45; refine (HS.out _).mono ?_; rintro e w' ⟨rfl, rfl⟩)
    go_ret
    exact ⟨rfl, Below.refl _ _⟩
  · have t1 : decide ((u : Int) < 100) = false := decide_eq_false (by omega)
    have t2 : decide (u < 100) = false := decide_eq_false h
    have hu1 : 1 ≤ u := by omega
    have hu64 : u < 18446744073709551616 := by omega
    have hnd20 : Lib.nDigits u ≤ 20 := nd_pow u 19 (by omega)
    have hal : Tryd.prog.arrayLen 83 = 24 := by simp [Program.arrayLen, Tryd.underlying83]
    have hsl1 : ∀ W, (Instr.sliceAt 83 (.pointer (some ⟨w.heap.size, 0, none⟩)) none (some (.int .i64 (Lib.nDigits u : Int))) none).run Tryd.prog W = .ok (.slice (some ⟨w.heap.size, 0, none⟩) (Lib.nDigits u) 24) W := fun W => by
      rw [run_sliceAt_array_h W 83 ⟨w.heap.size, 0, none⟩ (by simp [Program.arrayLen, Program.elem, Tryd.underlying83]) .i64 (Lib.nDigits u : Int) (by omega) (by rw [hal]; omega)]
      go_simp
    have hH1 : Holds (fun (b : UInt8) => Value.int .u8 (b.toNat : Int)) (w.alloc (.cells Lib.zeros24 83)) w.heap.size 0 (Array.replicate (Lib.nDigits u) 0) := by
      intro t ht
      rw [Array.size_replicate] at ht
      refine ⟨?_, ?_⟩
      · rw [World.cell?_alloc_new]
        rw [show (0 + t) = t by omega, Lib.zeros24_at t (by omega)]
        simp [ht]
      · exact World.frozen?_alloc_new _ _ _ _
    have hfmt := Tryd.internal_strconv_formatBase10 w.heap.size 0 24 u (Array.replicate (Lib.nDigits u) 0) (w.alloc (.cells Lib.zeros24 83)) hH1 (by rw [Array.size_replicate]; exact Lib.lt_pow_nDigits u) hu64 (by rw [Array.size_replicate]; omega)
    rw [Array.size_replicate] at hfmt
    have HF := Lib.hid hfmt
    have HH0 := Lib.hid hH1
    have HND : Hid (∀ w, Tab w → Calls Tryd.prog 46 #[.int .u64 u] w fun e w' => e = .returned (.int .i64 (Lib.nDigits u)) ∧ w' = w) := fun w ht => Tryd.internal_strconv_numDigits u hu1 hu64 w ht
    have HT := Lib.hid (tab_kept ht ((Below.refl _ _).alloc (Nat.le_refl _) (.cells Lib.zeros24 83)))
    clear hfmt hH1 hal ht hw h hu
    go_enter Tryd.func36, Tryd.ntmps36
    go_wp2_with (go_at_call 46; refine (HND.out _ HT.out).mono ?_; rintro e w' ⟨rfl, rfl⟩)
    go_at_call 47
    refine HF.out.mono ?_
    rintro e w' ⟨rfl, k, v', dk, rfl, hF⟩
    have hcv : (convert 22 9 (.slice (some ⟨w.heap.size, 0, none⟩) (Lib.nDigits u) 24)).run Tryd.prog ((putRow (fun (b : UInt8) => Value.int .u8 (b.toNat : Int)) (w.alloc (.cells Lib.zeros24 83)) w.heap.size 0 dk).drewN k) = .ok (.string (decB u)) ((putRow (fun (b : UInt8) => Value.int .u8 (b.toNat : Int)) (w.alloc (.cells Lib.zeros24 83)) w.heap.size 0 dk).drewN k) := by
      have h := run_convert_bytes_back (P := Tryd.prog) ((putRow (fun (b : UInt8) => Value.int .u8 (b.toNat : Int)) (w.alloc (.cells Lib.zeros24 83)) w.heap.size 0 dk).drewN k) 22 9 5 ⟨w.heap.size, 0, none⟩ 24 (Lib.decDigits u) Tryd.underlying22 Tryd.underlying5 Tryd.underlying9 (fun j hj => by
        rw [Lib.row_is_numeral hF j hj, Lib.add_plain, World.cell?_drewN]
        exact cell?_putRow (fun (b : UInt8) => Value.int .u8 (b.toNat : Int)) _ w.heap.size 0 _ dk HH0.out (by rw [hF.size, Array.size_replicate]) j (by rw [hF.size]; rw [Lib.decDigits_length] at hj; exact hj))
      rw [Lib.decDigits_length] at h
      exact h
    go_wp2
    go_ret
    refine ⟨rfl, ?_⟩
    obtain ⟨os, eo⟩ : ∃ os, (putRow (fun (b : UInt8) => Value.int .u8 (b.toNat : Int)) (w.alloc (.cells Lib.zeros24 83)) w.heap.size 0 dk).drewN k = grow (w.drewN k) os := by
      rw [alloc_eq_grow]
      obtain ⟨os', _, e⟩ := putRow_grow_new (fun (b : UInt8) => Value.int .u8 (b.toNat : Int)) w #[.cells Lib.zeros24 83] w.heap.size 0 dk (Nat.le_refl _)
      exact ⟨os', by rw [e]; rfl⟩
    rw [eo]
    exact below_grow w k os
theorem uint_any (u : Nat) (hu : u ≤ 18446744073709551615) (w : World) (ht : Tab w) : Calls Tryd.prog 24 #[.int .u64 u, .int .i64 10] w fun e w' => e = .returned (.string (decB u)) ∧ Below w.heap.size w w' := by
  have H := Lib.hid (uint_in u hu w ht)
  obtain ⟨X, hX⟩ : ∃ X, decB u = X := ⟨_, rfl⟩
  rw [hX] at H ⊢
  clear hX hu ht
  go_enter Tryd.func24, Tryd.ntmps24
  go_wp2_with (go_at_call 36; refine H.out.mono ?_; rintro e w' ⟨rfl, hb⟩)
  go_ret
  exact ⟨rfl, hb⟩
def wLast : ByteArray := ⟨#[108, 97, 115, 116, 32]⟩
def wCur : ByteArray := ⟨#[32, 99, 117, 114, 114, 101, 110, 116, 32]⟩
def wNext : ByteArray := ⟨#[32, 110, 101, 120, 116, 32]⟩
/-- A status' text. -/
def tB (l : Nat) (c n : Int) : ByteArray := wLast ++ decB l ++ wCur ++ itB c ++ wNext ++ itB n
theorem tB_le (l : Nat) (c n : Int) (hl : l ≤ 18446744073709551615) (hc : -9223372036854775808 ≤ c ∧ c ≤ 9223372036854775807) (hn : -9223372036854775808 ≤ n ∧ n ≤ 9223372036854775807) : (tB l c n).size ≤ 100 := by
  unfold tB
  simp only [ByteArray.size_append]
  have h1 := dec_le l hl
  have h2 := it_le c hc
  have h3 := it_le n hn
  have e1 : wLast.size = 5 := rfl
  have e2 : wCur.size = 9 := rfl
  have e3 : wNext.size = 6 := rfl
  omega
set_option maxHeartbeats 1600000 in
theorem text_any2 (l : Nat) (c n : Int) (hl : l ≤ 18446744073709551615) (hc : -9223372036854775808 ≤ c ∧ c ≤ 9223372036854775807) (hn : -9223372036854775808 ≤ n ∧ n ≤ 9223372036854775807) (w : World) (ht : Tab w) :
    Calls Tryd.prog 12 #[.agg #[.int .u64 l, .int .i64 c, .int .i64 n]] w fun e w' => e = .returned (.string (tB l c n)) ∧ Below w.heap.size w w' := by
  have hb0 : Below w.heap.size w (w.alloc (.cells #[.int .u64 l, .int .i64 c, .int .i64 n] 25)) := (Below.refl _ _).alloc (Nat.le_refl _) _
  have hr0 := heap_alloc_new w (.cells #[.int .u64 l, .int .i64 c, .int .i64 n] 25)
  obtain ⟨W, hW⟩ : ∃ W, w.alloc (.cells #[.int .u64 l, .int .i64 c, .int .i64 n] 25) = W := ⟨_, rfl⟩
  rw [hW] at hb0 hr0
  have HW := Lib.hid hW
  have HB0 := Lib.hid hb0
  have HR0 := Lib.hid hr0
  have HTK := Lib.hid (tab_kept ht hb0)
  have HT1 : Hid (∀ w, Tab w → Calls Tryd.prog 24 #[.int .u64 l, .int .i64 10] w fun e w' => e = .returned (.string (decB l)) ∧ Below w.heap.size w w') := fun w ht => uint_any l hl w ht
  have HT2 : Hid (∀ w, Tab w → Calls Tryd.prog 25 #[.int .i64 c] w fun e w' => e = .returned (.string (itB c)) ∧ Below w.heap.size w w') := fun w ht => itoa_any c hc w ht
  have HT3 : Hid (∀ w, Tab w → Calls Tryd.prog 25 #[.int .i64 n] w fun e w' => e = .returned (.string (itB n)) ∧ Below w.heap.size w w') := fun w ht => itoa_any n hn w ht
  have h1 := dec_le l hl
  have h2 := it_le c hc
  have h3 := it_le n hn
  unfold tB
  obtain ⟨X, hX⟩ : ∃ X, decB l = X := ⟨_, rfl⟩
  obtain ⟨Y, hY⟩ : ∃ Y, itB c = Y := ⟨_, rfl⟩
  obtain ⟨Z, hZ⟩ : ∃ Z, itB n = Z := ⟨_, rfl⟩
  rw [hX] at HT1 h1 ⊢
  rw [hY] at HT2 h2 ⊢
  rw [hZ] at HT3 h3 ⊢
  have e1 : (⟨#[108, 97, 115, 116, 32]⟩ : ByteArray).size = 5 := rfl
  have e2 : (⟨#[32, 99, 117, 114, 114, 101, 110, 116, 32]⟩ : ByteArray).size = 9 := rfl
  have e3 : (⟨#[32, 110, 101, 120, 116, 32]⟩ : ByteArray).size = 6 := rfl
  have q1 : ¬ 9223372036854775807 < 5 + X.size := by omega
  have q2 : ¬ 9223372036854775807 < 5 + X.size + 9 := by omega
  have q3 : ¬ 9223372036854775807 < 5 + X.size + 9 + Y.size := by omega
  have q4 : ¬ 9223372036854775807 < 5 + X.size + 9 + Y.size + 6 := by omega
  have q5 : ¬ 9223372036854775807 < 5 + X.size + 9 + Y.size + 6 + Z.size := by omega
  have HCC : Hid (∀ w' : World, Below W.heap.size W w' → w'.cell? ⟨w.heap.size, 0, none⟩ = some (.int .u64 l) ∧ w'.cell? ⟨w.heap.size, 1, none⟩ = some (.int .i64 c) ∧ w'.cell? ⟨w.heap.size, 2, none⟩ = some (.int .i64 n)) := fun w' hb => by
    have h := (hb.block _ (lt_of_block HR0.out)).trans HR0.out
    refine ⟨?_, ?_, ?_⟩ <;> (rw [cell_of_row _ _ _ _ _ _ h]; rfl)
  have HC0 := Lib.hid (HCC.out W (Below.refl _ _))
  have HBD : Hid (Below W.heap.size W W.drew) := ⟨rfl, rfl, rfl, Nat.le_refl _, fun _ _ => rfl⟩
  obtain ⟨c0, c1, c2⟩ := HC0.out
  unfold wLast wCur wNext
  clear ht hb0 hr0 hX hY hZ hl hc hn hW h1 h2 h3
  go_enter Tryd.func12, Tryd.ntmps12
  go_upto_region 1 with fail
  rw [HW.out]
  go_region_held3 (fun wx => wx.cell? ⟨w.heap.size, 0, none⟩ = some (.int .u64 l) ∧ wx.cell? ⟨w.heap.size, 1, none⟩ = some (.int .i64 c) ∧ wx.cell? ⟨w.heap.size, 2, none⟩ = some (.int .i64 n)) (first | (go_keep; done) | exact HC0.out | exact HKP.out | (refine ⟨?_, ?_, ?_⟩ <;> assumption))
    (first
      | (go_at_call 24; (with_reducible refine (HT1.out _ (tab_kept HTK.out HBD.out)).mono ?_); rintro e w1 ⟨rfl, hb1⟩; have HB1 := Lib.hid (HBD.out.trans (hb1.mono HBD.out.size)); have HKP := Lib.hid (HCC.out w1 HB1.out); clear hb1)
      | (go_at_call 25; (with_reducible refine (HT3.out _ (tab_kept HTK.out HB2.out)).mono ?_); rintro e w3 ⟨rfl, hb3⟩; have HB3 := Lib.hid (HB2.out.trans (hb3.mono HB2.out.size)); clear HKP; have HKP := Lib.hid (HCC.out w3 HB3.out); clear hb3)
      | (go_at_call 25; (with_reducible refine (HT2.out _ (tab_kept HTK.out HB1.out)).mono ?_); rintro e w2 ⟨rfl, hb2⟩; have HB2 := Lib.hid (HB1.out.trans (hb2.mono HB1.out.size)); clear HKP; have HKP := Lib.hid (HCC.out w2 HB2.out); clear hb2))
  go_wp2
  go_ret
  exact ⟨rfl, HB0.out.trans (HB3.out.mono HB0.out.size)⟩
set_option maxHeartbeats 1600000 in
theorem rtext_any2 (l : Nat) (c n : Int) (hl : l ≤ 18446744073709551615) (hc : -9223372036854775808 ≤ c ∧ c ≤ 9223372036854775807) (hn : -9223372036854775808 ≤ n ∧ n ≤ 9223372036854775807) (w : World) :
    Calls Tryd.prog 14 #[.agg #[.int .u64 l, .int .i64 c, .int .i64 n]] w fun e w' => e = .returned (.string (tB l c n)) ∧ Below w.heap.size w w' := by
  have hb0 : Below w.heap.size w (w.alloc (.cells #[.int .u64 l, .int .i64 c, .int .i64 n] 25)) := (Below.refl _ _).alloc (Nat.le_refl _) _
  have hr0 := heap_alloc_new w (.cells #[.int .u64 l, .int .i64 c, .int .i64 n] 25)
  obtain ⟨W, hW⟩ : ∃ W, w.alloc (.cells #[.int .u64 l, .int .i64 c, .int .i64 n] 25) = W := ⟨_, rfl⟩
  rw [hW] at hb0 hr0
  have HW := Lib.hid hW
  have HB0 := Lib.hid hb0
  have HR0 := Lib.hid hr0
  have HT1 : Hid (∀ w, Calls Tryd.prog 29 #[.int .u64 l] w fun e w' => e = .returned (.string (decB l)) ∧ Below w.heap.size w w') := fun w => (big_any l hl w).mono (by rintro e w' ⟨rfl, m, rfl⟩; exact ⟨rfl, rfl, rfl, rfl, Nat.le_refl _, fun _ _ => rfl⟩)
  have HT2 : Hid (∀ w, Calls Tryd.prog 30 #[.int .i64 c] w fun e w' => e = .returned (.string (itB c)) ∧ Below w.heap.size w w') := fun w => (rdig_any c hc w).mono (by rintro e w' ⟨rfl, m, rfl⟩; exact ⟨rfl, rfl, rfl, rfl, Nat.le_refl _, fun _ _ => rfl⟩)
  have HT3 : Hid (∀ w, Calls Tryd.prog 30 #[.int .i64 n] w fun e w' => e = .returned (.string (itB n)) ∧ Below w.heap.size w w') := fun w => (rdig_any n hn w).mono (by rintro e w' ⟨rfl, m, rfl⟩; exact ⟨rfl, rfl, rfl, rfl, Nat.le_refl _, fun _ _ => rfl⟩)
  have h1 := dec_le l hl
  have h2 := it_le c hc
  have h3 := it_le n hn
  unfold tB
  obtain ⟨X, hX⟩ : ∃ X, decB l = X := ⟨_, rfl⟩
  obtain ⟨Y, hY⟩ : ∃ Y, itB c = Y := ⟨_, rfl⟩
  obtain ⟨Z, hZ⟩ : ∃ Z, itB n = Z := ⟨_, rfl⟩
  rw [hX] at HT1 h1 ⊢
  rw [hY] at HT2 h2 ⊢
  rw [hZ] at HT3 h3 ⊢
  have e1 : (⟨#[108, 97, 115, 116, 32]⟩ : ByteArray).size = 5 := rfl
  have e2 : (⟨#[32, 99, 117, 114, 114, 101, 110, 116, 32]⟩ : ByteArray).size = 9 := rfl
  have e3 : (⟨#[32, 110, 101, 120, 116, 32]⟩ : ByteArray).size = 6 := rfl
  have q1 : ¬ 9223372036854775807 < 5 + X.size := by omega
  have q2 : ¬ 9223372036854775807 < 5 + X.size + 9 := by omega
  have q3 : ¬ 9223372036854775807 < 5 + X.size + 9 + Y.size := by omega
  have q4 : ¬ 9223372036854775807 < 5 + X.size + 9 + Y.size + 6 := by omega
  have q5 : ¬ 9223372036854775807 < 5 + X.size + 9 + Y.size + 6 + Z.size := by omega
  have HCC : Hid (∀ w' : World, Below W.heap.size W w' → w'.cell? ⟨w.heap.size, 0, none⟩ = some (.int .u64 l) ∧ w'.cell? ⟨w.heap.size, 1, none⟩ = some (.int .i64 c) ∧ w'.cell? ⟨w.heap.size, 2, none⟩ = some (.int .i64 n)) := fun w' hb => by
    have h := (hb.block _ (lt_of_block HR0.out)).trans HR0.out
    refine ⟨?_, ?_, ?_⟩ <;> (rw [cell_of_row _ _ _ _ _ _ h]; rfl)
  have HC0 := Lib.hid (HCC.out W (Below.refl _ _))
  have HBD : Hid (Below W.heap.size W W.drew) := ⟨rfl, rfl, rfl, Nat.le_refl _, fun _ _ => rfl⟩
  obtain ⟨c0, c1, c2⟩ := HC0.out
  unfold wLast wCur wNext
  clear hb0 hr0 hX hY hZ hl hc hn hW h1 h2 h3
  go_enter Tryd.func14, Tryd.ntmps14
  go_upto_region 1 with fail
  rw [HW.out]
  go_region_held3 (fun wx => wx.cell? ⟨w.heap.size, 0, none⟩ = some (.int .u64 l) ∧ wx.cell? ⟨w.heap.size, 1, none⟩ = some (.int .i64 c) ∧ wx.cell? ⟨w.heap.size, 2, none⟩ = some (.int .i64 n)) (first | (go_keep; done) | exact HC0.out | exact HKP.out | (refine ⟨?_, ?_, ?_⟩ <;> assumption))
    (first
      | (go_at_call 29; (with_reducible refine (HT1.out _).mono ?_); rintro e w1 ⟨rfl, hb1⟩; have HB1 := Lib.hid (HBD.out.trans (hb1.mono HBD.out.size)); have HKP := Lib.hid (HCC.out w1 HB1.out); clear hb1)
      | (go_at_call 30; (with_reducible refine (HT3.out _).mono ?_); rintro e w3 ⟨rfl, hb3⟩; have HB3 := Lib.hid (HB2.out.trans (hb3.mono HB2.out.size)); clear HKP; have HKP := Lib.hid (HCC.out w3 HB3.out); clear hb3)
      | (go_at_call 30; (with_reducible refine (HT2.out _).mono ?_); rintro e w2 ⟨rfl, hb2⟩; have HB2 := Lib.hid (HB1.out.trans (hb2.mono HB1.out.size)); clear HKP; have HKP := Lib.hid (HCC.out w2 HB2.out); clear hb2))
  go_wp2
  go_ret
  exact ⟨rfl, HB0.out.trans (HB3.out.mono HB0.out.size)⟩
theorem ex_text : tB 0 0 0 = ⟨#[108, 97, 115, 116, 32, 48, 32, 99, 117, 114, 114, 101, 110, 116, 32, 48, 32, 110, 101, 120, 116, 32, 48]⟩ := by
  unfold tB wLast wCur wNext
  rw [show itB 0 = decB 0 from itB_pos 0, decB_small (by omega)]
  decide +kernel
/-- The chapter's example. -/
theorem awake_any (w : World) (ht : Tab w) : Calls Tryd.prog 6 #[] w fun e w' => e = .returned (.bool true) ∧ Below w.heap.size w w' := by
  have H : Hid (Calls Tryd.prog 12 #[.agg #[.int .u64 0, .int .i64 0, .int .i64 0]] w fun e w' => e = .returned (.string ⟨#[108, 97, 115, 116, 32, 48, 32, 99, 117, 114, 114, 101, 110, 116, 32, 48, 32, 110, 101, 120, 116, 32, 48]⟩) ∧ Below w.heap.size w w') := by
    have h := text_any2 0 0 0 (by omega) (by omega) (by omega) w ht
    rw [ex_text] at h
    exact h
  clear ht
  go_enter Tryd.func6, Tryd.ntmps6
  go_wp2_with (go_at_call 12; refine H.out.mono ?_; rintro e w' ⟨rfl, hb⟩)
  go_ret
  exact ⟨rfl, hb⟩
end Go.Proofs.YtkikghmigjkjiaaDoor.Sta
