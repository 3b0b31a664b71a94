
/- A status as bytes: what package status' Put lays behind bytes, what its Get reads, and the document's bytes. Condition: the variables hold what the program lays there; at most 100 bytes come in. -/

import Derived.Test.YtkikghmigjkjiaaDoorBytS

import Derived.Test.YtkikghmigjkjiaaDoorFltO

import Derived.Test.YtkikghmigjkjiaaDoorFltB

import Derived.Test.YtkikghmigjkjiaaDoorFltK

import Derived.Test.YtkikghmigjkjiaaDoorOctW

import Derived.IntWalk

import Derived.Deep.Cut

import Derived.Deep.CutBlock

import Derived.Deep.RegionHeld3

import Derived.Lib.Hide

namespace Go.Proofs.YtkikghmigjkjiaaDoor.Sta

open Go.RowKit Go.PlainAid Go.Proofs.YtkikghmigjkjiaaDoor.Oct Go.Proofs.YtkikghmigjkjiaaDoor.Flt Go.Proofs.YtkikghmigjkjiaaDoor.Byt

set_option linter.unusedVariables false

set_option linter.unusedSimpArgs false

def f4 (n : Int) : Bool := decide (0 ≤ n) && decide (n ≤ 4294967295)
theorem fits4 {n : Int} (h : -9223372036854775808 ≤ n ∧ n ≤ 9223372036854775807) (w : World) :
    Calls Tryd.prog 15 #[.int .u64 (IntKind.u64.wrap n), .int .i64 4] w fun e w' => e = .returned (.bool (f4 n)) ∧ w = w' := by
  obtain ⟨v, hv⟩ : ∃ v : Nat, IntKind.u64.wrap n = v := ⟨(IntKind.u64.wrap n).toNat, by rw [IntKind.wrap_u64]; omega⟩
  have hv2 := hv
  rw [IntKind.wrap_u64] at hv2
  have e : f4 n = fitB v 4 := by
    unfold f4
    rw [fitB_4, Bool.eq_iff_iff]; simp; omega
  rw [hv, e]
  exact fits_any v 4 (by omega) w
def SNo (k : Nat) (w : World) (n : Nat) (xs : List Int) (e : Ending) (w' : World) : Prop :=
  ∃ V x, e = .returned (.tuple #[V, x]) ∧ w'.ownsRow w.heap.size 5 1 V n (xs.map (Value.int .u8)) ∧ IsFault w' x [(false, (k : Int))] (18 : Nat) ∧ Below w.heap.size w w'
theorem owns_base {w : World} {B B' n : Nat} {v : Value} {xs : List Value} (h : w.ownsRow B 5 1 v n xs) (hb : B' ≤ B) : w.ownsRow B' 5 1 v n xs := by
  obtain ⟨e1, e2⟩ := h
  refine ⟨e1, ?_⟩
  rcases e2 with h | ⟨g, c, cur, h1, h2, h3⟩
  · exact .inl h
  · exact .inr ⟨g, c, cur, h1, Nat.le_trans hb h2, h3⟩
set_option maxRecDepth 8000 in
set_option maxHeartbeats 1600000 in
theorem sput_no (k : Nat) (l c n : Int) (hc : -9223372036854775808 ≤ c ∧ c ≤ 9223372036854775807) (hn : -9223372036854775808 ≤ n ∧ n ≤ 9223372036854775807) (hbad : (k = 0 ∧ f4 c = false) ∨ (k = 1 ∧ f4 c = true ∧ f4 n = false)) (A : Option Addr) (len cap : Nat) (xs : List Int) (w : World) (hnm : Names w) (hx : IsBytes w A len xs) (hnil : A = none → len = 0 ∧ cap = 0) (hlen : len ≤ 1073741824) :
    Calls Tryd.prog 7 #[.slice A len cap, .agg #[.int .u64 l, .int .i64 c, .int .i64 n]] w (SNo k w len xs) := by
  have hb0 : Below w.heap.size w (w.alloc (.cells #[.int .u64 l, .int .i64 c, .int .i64 n] 25)) := (Below.refl _ _).alloc (Nat.le_refl _) _
  have hr0 := heap_alloc_new w (.cells #[.int .u64 l, .int .i64 c, .int .i64 n] 25)
  obtain ⟨W, hW⟩ : ∃ W, w.alloc (.cells #[.int .u64 l, .int .i64 c, .int .i64 n] 25) = W := ⟨_, rfl⟩
  rw [hW] at hb0 hr0
  have HW := Lib.hid hW
  have HB0 := Lib.hid hb0
  have HCL := Lib.hid (clone_any A len cap xs W (bytes_kept hx hb0) hnil (by omega))
  have HN := Lib.hid (hnm.kept hb0)
  have c1 := cell_of_row _ _ 1 _ _ _ hr0
  have c2 := cell_of_row _ _ 2 _ _ _ hr0
  simp only [List.getElem?_toArray, List.getElem?_cons_zero, List.getElem?_cons_succ] at c1 c2
  have HF1 := Lib.hid (fun w => fits4 hc w)
  have HF2 := Lib.hid (fun w => fits4 hn w)
  obtain ⟨uc, huc⟩ : ∃ u, IntKind.u64.wrap c = u := ⟨_, rfl⟩
  obtain ⟨un, hun⟩ : ∃ u, IntKind.u64.wrap n = u := ⟨_, rfl⟩
  rw [huc] at HF1
  rw [hun] at HF2
  clear hb0 hr0 hW hx hnil hnm hlen hc hn
  have ix0 : ∀ w : World, (Instr.index 42 (.agg #[.int .i64 c, .int .i64 n]) (.int .i64 0)).run Tryd.prog w = .ok (.int .i64 c) w := fun w => by kernel_rfl
  have ix1 : ∀ w : World, (Instr.index 42 (.agg #[.int .i64 c, .int .i64 n]) (.int .i64 1)).run Tryd.prog w = .ok (.int .i64 n) w := fun w => by kernel_rfl
  go_enter Tryd.func7, Tryd.ntmps7
  go_upto_region 1 with fail
  rw [HW.out]
  go_wp2_with fail
  go_loopw [15] (fun i wr => ∃ j : Int, (j = 0 ∨ (k = 1 ∧ j = 1)) ∧ i = .int .i64 j ∧ W = wr) (fun i _ => 2 - (intOf i).toNat)
  case atStart => exact ⟨0, .inl rfl, rfl, rfl⟩
  case round =>
    obtain ⟨j, hj, rfl, rfl⟩ := hrel
    rcases hbad with ⟨rfl, hf⟩ | ⟨rfl, hf1, hf2⟩
    · obtain rfl : j = 0 := by omega
      rw [hf] at HF1
      clear hj hf hun HF2
      go_wp2_with (first
        | (go_at_call 15; refine (HF1.out _).mono ?_; rintro e w' ⟨rfl, rfl⟩)
        | (go_at_call 16; refine HCL.out.mono ?_; rintro e w2 ⟨V, rfl, ho, hb2⟩; have HO := Lib.hid ho; have HB2 := Lib.hid hb2; clear ho hb2)
        | (go_at_call 18; refine (new_yes 18 (by omega) (by omega) _ (HN.out.kept HB2.out)).mono ?_; rintro e w' ⟨rfl, rfl⟩)
        | (go_at_call 17; refine (at_any 0 _ [] 18 _ rfl).mono ?_; rintro e w3 ⟨y, rfl, hy, hb3⟩; have HY := Lib.hid hy; have HB3 := Lib.hid hb3; clear hy hb3))
      go_ret2
      exact ⟨V, y, rfl, Flt.owns_kept (owns_base HO.out HB0.out.size) HB3.out, HY.out, HB0.out.trans ((HB2.out.trans (HB3.out.mono HB2.out.size)).mono HB0.out.size)⟩
    · rcases (show j = 0 ∨ j = 1 by omega) with rfl | rfl
      · rw [hf1] at HF1
        have HF2' := Lib.hid hf2
        clear hj hf1 hf2 hun HF2
        go_wp2_with (go_at_call 15; refine (HF1.out _).mono ?_; rintro e w' ⟨rfl, rfl⟩)
        go_roundw
        case rel => exact ⟨1, by simp, by simp, by simp⟩
        case measure => simp [intOf]
      · rw [hf2] at HF2
        clear hj hf1 hf2 huc HF1
        go_wp2_with (first
          | (go_at_call 15; refine (HF2.out _).mono ?_; rintro e w' ⟨rfl, rfl⟩)
          | (go_at_call 16; refine HCL.out.mono ?_; rintro e w2 ⟨V, rfl, ho, hb2⟩; have HO := Lib.hid ho; have HB2 := Lib.hid hb2; clear ho hb2)
          | (go_at_call 18; refine (new_yes 18 (by omega) (by omega) _ (HN.out.kept HB2.out)).mono ?_; rintro e w' ⟨rfl, rfl⟩)
          | (go_at_call 17; refine (at_any 1 _ [] 18 _ rfl).mono ?_; rintro e w3 ⟨y, rfl, hy, hb3⟩; have HY := Lib.hid hy; have HB3 := Lib.hid hb3; clear hy hb3))
        go_ret2
        exact ⟨V, y, rfl, Flt.owns_kept (owns_base HO.out HB0.out.size) HB3.out, HY.out, HB0.out.trans ((HB2.out.trans (HB3.out.mono HB2.out.size)).mono HB0.out.size)⟩
def stB (l c n : Nat) : List Int := (low l 8 ++ low c 4) ++ low n 4
theorem stB_len (l c n : Nat) : (stB l c n).length = 16 := by unfold stB; simp [low_length]
theorem own_bytes {w : World} {B g n c : Nat} {xs : List Int} (h : w.ownsRow B 5 1 (.slice (some ⟨g, 0, none⟩) n c) n (xs.map (Value.int .u8))) : IsBytes w (some ⟨g, 0, none⟩) n xs := by
  have hl : xs.length = n := by have := h.1; simpa using this
  refine ⟨hl, fun _ => ⟨⟨g, 0, none⟩, rfl, fun j v hj => ?_⟩⟩
  have hjn : j < n := by
    rcases Nat.lt_or_ge j (xs.map (Value.int .u8)).length with hh | hh
    · rw [List.length_map] at hh; omega
    · rw [List.getElem?_eq_none hh] at hj; cases hj
  have := h.cellAt j (by omega)
  have e : (Addr.mk g 0 none).add j = ⟨g, j, none⟩ := by cases j <;> simp [Addr.add]
  rw [e, this, hj]
def SYes (w : World) (n : Nat) (xs : List Int) (e : Ending) (w' : World) : Prop :=
  ∃ V, e = .returned (.tuple #[V, .nilIface]) ∧ w'.ownsRow w.heap.size 5 1 V n (xs.map (Value.int .u8)) ∧ Below w.heap.size w w'
set_option maxRecDepth 8000 in
set_option maxHeartbeats 1600000 in
theorem sput_yes (l c n : Nat) (hl : l ≤ 18446744073709551615) (hc : c ≤ 4294967295) (hn : n ≤ 4294967295) (A : Option Addr) (len cap : Nat) (xs : List Int) (w : World) (hx : IsBytes w A len xs) (hnil : A = none → len = 0 ∧ cap = 0) (hlen : len ≤ 1073741824) :
    Calls Tryd.prog 7 #[.slice A len cap, .agg #[.int .u64 l, .int .i64 c, .int .i64 n]] w (SYes w (len + 16) (xs ++ stB l c n)) := by
  have hb0 : Below w.heap.size w (w.alloc (.cells #[.int .u64 l, .int .i64 c, .int .i64 n] 25)) := (Below.refl _ _).alloc (Nat.le_refl _) _
  have hr0 := heap_alloc_new w (.cells #[.int .u64 l, .int .i64 c, .int .i64 n] 25)
  obtain ⟨W, hW⟩ : ∃ W, w.alloc (.cells #[.int .u64 l, .int .i64 c, .int .i64 n] 25) = W := ⟨_, rfl⟩
  rw [hW] at hb0 hr0
  have HW := Lib.hid hW
  have HB0 := Lib.hid hb0
  have HX := Lib.hid (bytes_kept hx hb0)
  have HNIL := Lib.hid hnil
  have HR0 := Lib.hid hr0
  have HR : Hid (∀ w' : World, Below W.heap.size W w' → w'.cell? ⟨w.heap.size, 0, none⟩ = some (.int .u64 l) ∧ w'.cell? ⟨w.heap.size, 1, none⟩ = some (.int .i64 c) ∧ w'.cell? ⟨w.heap.size, 2, none⟩ = some (.int .i64 n)) := fun w' hb => by
    have h := (hb.block _ (lt_of_block HR0.out)).trans HR0.out
    refine ⟨?_, ?_, ?_⟩ <;> (rw [cell_of_row _ _ _ _ _ _ h]; rfl)
  obtain ⟨c0, c1, c2⟩ := HR.out W (Below.refl _ _)
  have HF1 : Hid (∀ w, Calls Tryd.prog 15 #[.int .u64 c, .int .i64 4] w fun e w' => e = .returned (.bool true) ∧ w = w') := fun w => by
    have h := fits_any c 4 (by omega) w
    rw [fitB_4, decide_eq_true (by omega)] at h
    exact h
  have HF2 : Hid (∀ w, Calls Tryd.prog 15 #[.int .u64 n, .int .i64 4] w fun e w' => e = .returned (.bool true) ∧ w = w') := fun w => by
    have h := fits_any n 4 (by omega) w
    rw [fitB_4, decide_eq_true (by omega)] at h
    exact h
  have wc : IntKind.u64.wrap (c : Int) = c := IntWalk.u64_in _ (by omega)
  have wn : IntKind.u64.wrap (n : Int) = n := IntWalk.u64_in _ (by omega)
  have HP1 : Hid (∀ w, Calls Tryd.prog 19 #[.slice none 0 0, .int .u64 l, .int .i64 8] w (PutPost w [] true (low l 8))) := fun w => put_yes none 0 0 [] l 8 w ⟨rfl, fun h => absurd h (by omega)⟩ (by omega) hl (fitB_8 l)
  have HP2 : Hid (∀ (g m c' : Nat) (ys : List Int) (w : World), IsBytes w (some ⟨g, 0, none⟩) m ys → m ≤ 100 → Calls Tryd.prog 19 #[.slice (some ⟨g, 0, none⟩) m c', .int .u64 c, .int .i64 4] w (PutPost w ys true (low c 4))) := fun g m c' ys w hy hm => put_yes (some ⟨g, 0, none⟩) m c' ys c 4 w hy (by omega) (by omega) (by show fitB c 4 = true; rw [fitB_4]; exact decide_eq_true (by omega))
  have HP3 : Hid (∀ (g m c' : Nat) (ys : List Int) (w : World), IsBytes w (some ⟨g, 0, none⟩) m ys → m ≤ 100 → Calls Tryd.prog 19 #[.slice (some ⟨g, 0, none⟩) m c', .int .u64 n, .int .i64 4] w (PutPost w ys true (low n 4))) := fun g m c' ys w hy hm => put_yes (some ⟨g, 0, none⟩) m c' ys n 4 w hy (by omega) (by omega) (by show fitB n 4 = true; rw [fitB_4]; exact decide_eq_true (by omega))
  have HLEN : Hid (len ≤ 1073741824) := hlen
  clear hb0 hr0 hW hx hnil hlen hc hn hl
  have ix0 : ∀ w : World, (Instr.index 42 (.agg #[.int .i64 c, .int .i64 n]) (.int .i64 0)).run Tryd.prog w = .ok (.int .i64 c) w := fun w => by kernel_rfl
  have ix1 : ∀ w : World, (Instr.index 42 (.agg #[.int .i64 c, .int .i64 n]) (.int .i64 1)).run Tryd.prog w = .ok (.int .i64 n) w := fun w => by kernel_rfl
  go_enter Tryd.func7, Tryd.ntmps7
  go_upto_region 1 with fail
  rw [HW.out]
  go_wp2_with fail
  go_loopw [15] (fun i wr => ∃ j : Int, (j = 0 ∨ j = 1 ∨ j = 2) ∧ i = .int .i64 j ∧ W = wr) (fun i _ => 2 - (intOf i).toNat)
  case atStart => exact ⟨0, .inl rfl, rfl, rfl⟩
  case round =>
    obtain ⟨j, hj, rfl, rfl⟩ := hrel
    rcases hj with rfl | rfl | rfl
    · go_wp2_with (go_at_call 15; refine (HF1.out _).mono ?_; rintro e w' ⟨rfl, rfl⟩)
      go_roundw
      case rel => exact ⟨1, by simp, by simp, by simp⟩
      case measure => simp [intOf]
    · go_wp2_with (go_at_call 15; refine (HF2.out _).mono ?_; rintro e w' ⟨rfl, rfl⟩)
      go_roundw
      case rel => exact ⟨2, by simp, by simp, by simp⟩
      case measure => simp [intOf]
    · go_wp2_with fail
      refine (HP1.out _).mono ?_
      rintro e w1 ⟨n1, k1, rfl, ho1, hb1⟩
      obtain rfl : n1 = 8 := by have h := ho1.1; simp [low_length] at h; omega
      rw [List.nil_append] at ho1
      have HO1 := Lib.hid (own_bytes ho1)
      have HB1 := Lib.hid hb1
      have q1 := (HR.out w1 hb1).2.1
      clear ho1 hb1 HP1
      go_wp2_with fail
      refine (HP2.out _ _ _ _ _ HO1.out (by omega)).mono ?_
      rintro e w2 ⟨n2, k2, rfl, ho2, hb2⟩
      obtain rfl : n2 = 12 := by have h := ho2.1; simp [low_length] at h; omega
      have HO2 := Lib.hid (own_bytes ho2)
      have HB2 := Lib.hid (HB1.out.trans (hb2.mono HB1.out.size))
      have q2 := (HR.out w2 HB2.out).2.2
      clear ho2 hb2 HP2 q1
      go_wp2_with fail
      refine (HP3.out _ _ _ _ _ HO2.out (by omega)).mono ?_
      rintro e w3 ⟨n3, k3, rfl, ho3, hb3⟩
      obtain rfl : n3 = 16 := by have h := ho3.1; simp [low_length] at h; omega
      have HO3 := Lib.hid (own_bytes ho3)
      have HB3 := Lib.hid (HB2.out.trans (hb3.mono HB2.out.size))
      obtain ⟨g, hg⟩ : ∃ g, w2.heap.size = g := ⟨_, rfl⟩
      rw [hg] at HO3
      rw [hg]
      clear ho3 hb3 HP3 q2 c0 c1 c2 hg
      have hb5 : ∀ cs, Below w3.heap.size w3 (w3.alloc (.cells cs 22)) := fun cs => (Below.refl _ _).alloc (Nat.le_refl _) _
      have HB4 := Lib.hid (HB0.out.trans (HB3.out.mono HB0.out.size))
      have HC := Lib.hid (concat_any w3.heap.size A len cap xs g 16 k3 (low l 8 ++ low c 4 ++ low n 4) (w3.alloc (.cells #[.slice A len cap, .slice (some ⟨g, 0, none⟩) 16 k3] 22)) (by rw [cell_of_row _ _ _ _ _ _ (heap_alloc_new w3 _)]; rfl) (by rw [cell_of_row _ _ _ _ _ _ (heap_alloc_new w3 _)]; rfl)
        (bytes_kept HX.out (HB3.out.trans ((hb5 _).mono HB3.out.size))) (bytes_kept HO3.out (hb5 _)) HNIL.out (by have := HLEN.out; omega) (by omega) (by omega))
      have HB6 := Lib.hid (HB4.out.trans ((hb5 #[.slice A len cap, .slice (some ⟨g, 0, none⟩) 16 k3]).mono HB4.out.size))
      have hsz : ∀ o, (w3.alloc o).heap.size = w3.heap.size + 1 := fun _ => by simp
      have HSZ := Lib.hid hsz
      clear hb5 hsz
      go_wp2_with (go_at_call 20; refine HC.out.mono ?_; rintro e w9 ⟨V, rfl, ho9, hb9⟩; have HO9 := Lib.hid (owns_base ho9 (Nat.le_trans HB4.out.size (by rw [HSZ.out]; omega))); have HB9 := Lib.hid (HB6.out.trans (hb9.mono HB6.out.size)); clear ho9 hb9)
      go_ret2
      exact ⟨V, rfl, HO9.out, HB9.out⟩
/-- The document's bytes. -/
theorem bytes_any (l c n : Nat) (hl : l ≤ 18446744073709551615) (hc : c ≤ 9223372036854775807) (hn : n ≤ 9223372036854775807) (w : World) :
    Calls Tryd.prog 9 #[.agg #[.int .u64 l, .int .i64 c, .int .i64 n]] w fun e w' => e = .returned (.string (strOfNums (stB l c n))) ∧ Below w.heap.size w w' := by
  have hb0 : Below w.heap.size w (w.alloc (.cells #[.int .u64 l, .int .i64 c, .int .i64 n] 25)) := (Below.refl _ _).alloc (Nat.le_refl _) _
  have hr0 := heap_alloc_new w (.cells #[.int .u64 l, .int .i64 c, .int .i64 n] 25)
  obtain ⟨W, hW⟩ : ∃ W, w.alloc (.cells #[.int .u64 l, .int .i64 c, .int .i64 n] 25) = W := ⟨_, rfl⟩
  rw [hW] at hb0 hr0
  have HW := Lib.hid hW
  have HB0 := Lib.hid hb0
  have HR0 := Lib.hid hr0
  have wc : IntKind.u64.wrap (c : Int) = c := IntWalk.u64_in _ (by omega)
  have wn : IntKind.u64.wrap (n : Int) = n := IntWalk.u64_in _ (by omega)
  unfold stB
  rw [strOf_append, strOf_append]
  have HT1 : Hid (∀ w, Calls Tryd.prog 22 #[.int .u64 l, .int .i64 8] w fun e w' => e = .returned (.string (strOfNums (low l 8))) ∧ Below w.heap.size w w') := fun w => text_any l 8 (by omega) hl w
  have HT2 : Hid (∀ w, Calls Tryd.prog 22 #[.int .u64 c, .int .i64 4] w fun e w' => e = .returned (.string (strOfNums (low c 4))) ∧ Below w.heap.size w w') := fun w => text_any c 4 (by omega) (by omega) w
  have HT3 : Hid (∀ w, Calls Tryd.prog 22 #[.int .u64 n, .int .i64 4] w fun e w' => e = .returned (.string (strOfNums (low n 4))) ∧ Below w.heap.size w w') := fun w => text_any n 4 (by omega) (by omega) w
  obtain ⟨X, hX⟩ : ∃ X, strOfNums (low l 8) = X := ⟨_, rfl⟩
  obtain ⟨Y, hY⟩ : ∃ Y, strOfNums (low c 4) = Y := ⟨_, rfl⟩
  obtain ⟨Z, hZ⟩ : ∃ Z, strOfNums (low n 4) = Z := ⟨_, rfl⟩
  have s1 : X.size = 8 := by rw [← hX, strOfNums_size, low_length]
  have s2 : Y.size = 4 := by rw [← hY, strOfNums_size, low_length]
  have s3 : Z.size = 4 := by rw [← hZ, strOfNums_size, low_length]
  rw [hX] at HT1 ⊢
  rw [hY] at HT2 ⊢
  rw [hZ] at HT3 ⊢
  have HCC : Hid (∀ w' : World, Below W.heap.size W w' → w'.cell? ⟨w.heap.size, 0, none⟩ = some (.int .u64 l) ∧ w'.cell? ⟨w.heap.size, 1, none⟩ = some (.int .i64 c) ∧ w'.cell? ⟨w.heap.size, 2, none⟩ = some (.int .i64 n)) := fun w' hb => by
    have h := (hb.block _ (lt_of_block HR0.out)).trans HR0.out
    refine ⟨?_, ?_, ?_⟩ <;> (rw [cell_of_row _ _ _ _ _ _ h]; rfl)
  have HC0 := Lib.hid (HCC.out W (Below.refl _ _))
  have HBD : Hid (Below W.heap.size W W.drew) := ⟨rfl, rfl, rfl, Nat.le_refl _, fun _ _ => rfl⟩
  obtain ⟨c0, c1, c2⟩ := HC0.out
  clear hb0 hr0 hX hY hZ hl hc hn hW
  go_enter Tryd.func9, Tryd.ntmps9
  go_upto_region 1 with fail
  rw [HW.out]
  go_region_held3 (fun wx => wx.cell? ⟨w.heap.size, 0, none⟩ = some (.int .u64 l) ∧ wx.cell? ⟨w.heap.size, 1, none⟩ = some (.int .i64 c) ∧ wx.cell? ⟨w.heap.size, 2, none⟩ = some (.int .i64 n)) (first | (go_keep; done) | exact HC0.out | exact HKP.out | (refine ⟨?_, ?_, ?_⟩ <;> assumption))
    ((go_at_call 22; first
      | ((with_reducible refine (HT1.out _).mono ?_); rintro e w1 ⟨rfl, hb1⟩; have HB1 := Lib.hid (HBD.out.trans (hb1.mono HBD.out.size)); have HKP := Lib.hid (HCC.out w1 HB1.out); clear hb1)
      | ((with_reducible refine (HT2.out _).mono ?_); rintro e w2 ⟨rfl, hb2⟩; have HB2 := Lib.hid (HB1.out.trans (hb2.mono HB1.out.size)); clear HKP; have HKP := Lib.hid (HCC.out w2 HB2.out); clear hb2)
      | ((with_reducible refine (HT3.out _).mono ?_); rintro e w3 ⟨rfl, hb3⟩; have HB3 := Lib.hid (HB2.out.trans (hb3.mono HB2.out.size)); clear HKP; have HKP := Lib.hid (HCC.out w3 HB3.out); clear hb3)))
  go_wp2
  go_ret
  exact ⟨rfl, HB0.out.trans (HB3.out.mono HB0.out.size)⟩
end Go.Proofs.YtkikghmigjkjiaaDoor.Sta
