
/- What package name's Compare tells, and what the law asks of it. No condition but that the texts are no longer than an int tells. -/

import Derived.Test.YtbjolbgjohggiaaDoorNamB

import Derived.Test.YtbjolbgjohggiaaDoorShelf

namespace Go.Proofs.YtbjolbgjohggiaaDoor.Nam

open Go.RowKit Go.PlainAid Go.Proofs.YtbjolbgjohggiaaDoor.Oct

set_option linter.unusedVariables false

theorem or_any (x y : Int) (g : Nat) (w : World) (h : w.heap[g]? = some (.cells #[.int .i64 x, .int .i64 y] 3 (0, 0))) :
    Calls Tryd.prog 47 #[.slice (some ⟨g, 0, none⟩) 2 2] w fun e w' => e = .returned (.int .i64 (if x = 0 then y else x)) ∧ w = w' := by
  have hc0 : w.cell? ⟨g, 0, none⟩ = some (.int .i64 x) := by rw [cell_of_row w _ _ _ _ _ h]; rfl
  have hc1 : w.cell? ⟨g, 1, none⟩ = some (.int .i64 y) := by rw [cell_of_row w _ _ _ _ _ h]; rfl
  clear h
  by_cases hx : x = 0
  · subst hx
    rw [if_pos rfl]
    by_cases hy : y = 0
    · subst hy
      go_enter Tryd.func47, Tryd.ntmps47
      go_wp2
      go_loop [8] (fun i => ∃ k : Nat, k ≤ 2 ∧ i = .int .i64 k) (fun i => 2 - (intOf i).toNat)
      case atStart => exact ⟨0, by omega, rfl⟩
      case round =>
        obtain ⟨k, hk, rfl⟩ := hrel
        rcases (show k = 0 ∨ k = 1 ∨ k = 2 by omega) with rfl | rfl | rfl
        · clear hk
          go_wp2
          go_round
          case rel => exact ⟨1, by omega, rfl⟩
          case measure => simp [intOf]
        · clear hk
          go_wp2
          go_round
          case rel => exact ⟨2, by omega, rfl⟩
          case measure => simp [intOf]
        · clear hk
          go_wp2
          go_ret
          exact ⟨rfl, rfl⟩
    · have t1 : (y != 0) = true := by simp; exact hy
      clear hy
      go_enter Tryd.func47, Tryd.ntmps47
      go_wp2
      go_loop [8] (fun i => ∃ k : Nat, k ≤ 1 ∧ i = .int .i64 k) (fun i => 2 - (intOf i).toNat)
      case atStart => exact ⟨0, by omega, rfl⟩
      case round =>
        obtain ⟨k, hk, rfl⟩ := hrel
        rcases (show k = 0 ∨ k = 1 by omega) with rfl | rfl
        · clear hk
          go_wp2
          go_round
          case rel => exact ⟨1, by omega, rfl⟩
          case measure => simp [intOf]
        · clear hk
          go_wp2
          go_ret
          exact ⟨rfl, rfl⟩
  · rw [if_neg hx]
    have t1 : (x != 0) = true := by simp; exact hx
    clear hx
    go_enter Tryd.func47, Tryd.ntmps47
    go_wp2
    go_loop [8] (fun i => i = .int .i64 0) (fun i => 2 - (intOf i).toNat)
    case atStart => rfl
    case round =>
      obtain rfl := hrel
      go_wp2
      go_ret
      exact ⟨rfl, rfl⟩

/-- The order of names. -/
def cmpV (a b : ByteArray) : Int := if Lib.compareInt a.size b.size = 0 then Lib.compareBytes a.data.toList b.data.toList else Lib.compareInt a.size b.size
theorem compare_any (a b : ByteArray) (w : World) (ha : a.size ≤ maxLen) (hb : b.size ≤ maxLen) :
    Calls Tryd.prog 31 #[.string a, .string b] w fun e w' => e = .returned (.int .i64 (cmpV a b)) ∧ Below w.heap.size w w' := by
  unfold cmpV
  have H1 := Lib.hid (fun w => Tryd.cmp_Compare_int (a.size : Int) (b.size : Int) w)
  have H2 := Lib.hid (fun w => Tryd.strings_Compare a b w)
  obtain ⟨x, hx⟩ : ∃ x, Lib.compareInt a.size b.size = x := ⟨_, rfl⟩
  obtain ⟨y, hy⟩ : ∃ y, Lib.compareBytes a.data.toList b.data.toList = y := ⟨_, rfl⟩
  rw [hx] at H1 ⊢
  rw [hy] at H2 ⊢
  clear hx hy ha hb
  have hbel : ∀ o, Below w.heap.size w (w.alloc o) := fun o => (Below.refl _ _).alloc (Nat.le_refl _) _
  have HB := Lib.hid hbel
  have HO : Hid (Calls Tryd.prog 47 #[.slice (some ⟨w.heap.size, 0, none⟩) 2 2] (w.alloc (.cells #[.int .i64 x, .int .i64 y] 3)) fun e w' => e = .returned (.int .i64 (if x = 0 then y else x)) ∧ (w.alloc (.cells #[.int .i64 x, .int .i64 y] 3)) = w') := or_any x y _ _ (heap_alloc_new _ _)
  obtain ⟨z, hz⟩ : ∃ z, (if x = 0 then y else x) = z := ⟨_, rfl⟩
  rw [hz] at HO ⊢
  clear hz hbel
  go_enter Tryd.func31, Tryd.ntmps31
  go_wp2_with (first
    | (go_at_call 48; refine (H1.out _).mono ?_; rintro e w' ⟨rfl, rfl⟩)
    | (go_at_call 49; refine (H2.out _).mono ?_; rintro e w' ⟨rfl, rfl⟩)
    | (go_at_call 47; refine (HO.out).mono ?_; rintro e w' ⟨rfl, rfl⟩))
  go_ret
  exact ⟨rfl, HB.out _⟩
end Go.Proofs.YtbjolbgjohggiaaDoor.Nam
