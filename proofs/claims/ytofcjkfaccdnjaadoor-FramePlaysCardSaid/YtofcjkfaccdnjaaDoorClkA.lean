
/- What package clock's calls do to a clock of any time. Conditions: times fit 64 bits, counts fit an int. -/

import Derived.Test.YtofcjkfaccdnjaaDoorProg

import Derived.WalkKit

import Derived.PlainAid

import Derived.Lib.Hide

import Derived.Deep.RegionWith

namespace Go.Proofs.YtofcjkfaccdnjaaDoor.Clk

open Go.RowKit Go.PlainAid

theorem ret_two {k l : IntKind} {a b c d : Int} (h : a = b) (h2 : c = d) : Ending.returned (.tuple #[.int k a, .int l c]) = .returned (.tuple #[.int k b, .int l d]) := by rw [h, h2]
theorem ret_int {k : IntKind} {a b : Int} (h : a = b) : Ending.returned (.int k a) = .returned (.int k b) := by rw [h]
/-- Block g is a clock of time t. -/
def IsClk (w : World) (g t : Nat) : Prop := w.heap[g]? = some (.cells #[.int .u64 t] 94 (0, 0))

theorem cnew_any (t : Nat) (w : World) : Calls Tryd.prog 30 #[.int .u64 t] w fun e w' => ∃ g, w.heap.size ≤ g ∧ e = .returned (.pointer (some ⟨g, 0, none⟩)) ∧ IsClk w' g t ∧ Below w.heap.size w w' := by
  go_enter Tryd.func30, Tryd.ntmps30
  go_wp2
  go_ret
  exact ⟨w.heap.size, Nat.le_refl _, rfl, heap_alloc_new _ _, (Below.refl _ _).alloc (Nat.le_refl _) _⟩

theorem clk_cell {w : World} {g t : Nat} (h : IsClk w g t) : w.cell? ⟨g, 0, none⟩ = some (.int .u64 t) := by
  rw [cell_of_row w _ _ _ _ _ h]; rfl
theorem cnow_any (g t : Nat) (w : World) (h : IsClk w g t) :
    Calls Tryd.prog 45 #[.pointer (some ⟨g, 0, none⟩)] w fun e w' => e = .returned (.int .u64 t) ∧ w = w' := by
  have hc := clk_cell h
  clear h
  go_enter Tryd.func45, Tryd.ntmps45
  go_wp2
  go_ret
  exact ⟨rfl, rfl⟩
theorem chalt_any (g t : Nat) (w : World) (h : IsClk w g t) :
    Calls Tryd.prog 44 #[.pointer (some ⟨g, 0, none⟩)] w fun e w' => e = .returned (.bool ((t : Int) == 18446744073709551615)) ∧ w = w' := by
  have hc := clk_cell h
  clear h
  go_enter Tryd.func44, Tryd.ntmps44
  go_wp2
  go_ret
  exact ⟨rfl, rfl⟩
theorem cleft_any (g t : Nat) (w : World) (ht : t ≤ 18446744073709551615) (h : IsClk w g t) :
    Calls Tryd.prog 61 #[.pointer (some ⟨g, 0, none⟩)] w fun e w' => e = .returned (.int .u64 ((18446744073709551615 - t : Nat) : Int)) ∧ w = w' := by
  have hc := clk_cell h
  clear h
  go_enter Tryd.func61, Tryd.ntmps61
  go_wp2
  go_ret
  exact ⟨ret_int (by omega), rfl⟩
theorem ccopy_any (g t : Nat) (w : World) (h : IsClk w g t) :
    Calls Tryd.prog 39 #[.pointer (some ⟨g, 0, none⟩)] w fun e w' => ∃ g', w.heap.size ≤ g' ∧ e = .returned (.pointer (some ⟨g', 0, none⟩)) ∧ IsClk w' g' t ∧ Below w.heap.size w w' := by
  have hc := clk_cell h
  clear h
  go_enter Tryd.func39, Tryd.ntmps39
  go_wp2_with fail
  refine (cnew_any t _).mono ?_
  rintro e w' ⟨g', h1, rfl, h2, h3⟩
  go_wp2
  go_ret
  exact ⟨g', h1, rfl, h2, h3⟩

/-- How many ticks a run of n takes at a time. -/
def went (t : Nat) (n : Int) : Nat := min n.toNat (18446744073709551615 - t)
/-- All blocks but g are as they were. -/
def Only (g : Nat) (w w' : World) : Prop := ∀ k, k ≠ g → w'.heap[k]? = w.heap[k]?
theorem Only.clk {g h t : Nat} {w w' : World} (o : Only g w w') (hk : h ≠ g) (c : IsClk w h t) : IsClk w' h t := (o h hk).trans c
theorem below_clk {B h t : Nat} {w w' : World} (b : Below B w w') (hk : h < B) (c : IsClk w h t) : IsClk w' h t := (b.block h hk).trans c
theorem clk_set {w : World} {g t y : Nat} (h : IsClk w g t) {x : Int} (e : x = (y : Int)) : IsClk (w.setCell ⟨g, 0, none⟩ (.int .u64 x)) g y := by
  subst e
  show _ = _
  rw [heap_setCell_same w _ _ _ _ _ h]; rfl
theorem crun_any (g t : Nat) (n : Int) (w : World) (ht : t ≤ 18446744073709551615) (hn : n ≤ 9223372036854775807) (h : IsClk w g t) :
    Calls Tryd.prog 52 #[.pointer (some ⟨g, 0, none⟩), .int .i64 n] w fun e w' => e = .returned (.int .i64 (went t n)) ∧ IsClk w' g (t + went t n) ∧ Below g w w' ∧ Only g w w' := by
  have hc := clk_cell h
  have hf : w.frozen? ⟨g, 0, none⟩ = false := frozen_of_row w _ _ _ _ h
  have hB : ∀ v, Below g w (w.setCell ⟨g, 0, none⟩ v) := fun v => (Below.refl _ _).setCell (Nat.le_refl g) v
  have hO : ∀ v, Only g w (w.setCell ⟨g, 0, none⟩ v) := fun v k hk => heap_setCell_other w _ k v hk
  rcases Int.lt_or_le n 0 with h0 | h0
  · have e : went t n = 0 := by unfold went; omega
    rw [e]
    clear e
    go_enter Tryd.func52, Tryd.ntmps52
    go_wp2_with (go_at_call 61; refine (cleft_any g t _ ht h).mono ?_; rintro e w' ⟨rfl, rfl⟩)
    go_ret
    exact ⟨rfl, clk_set h (by omega), hB _, hO _⟩
  · obtain ⟨m, rfl⟩ : ∃ m : Nat, n = m := ⟨n.toNat, by omega⟩
    rcases Nat.lt_or_ge (18446744073709551615 - t) m with h1 | h1
    · have e : went t m = 18446744073709551615 - t := by unfold went; omega
      rw [e]
      clear e
      go_enter Tryd.func52, Tryd.ntmps52
      go_wp2_with (go_at_call 61; refine (cleft_any g t _ ht h).mono ?_; rintro e w' ⟨rfl, rfl⟩)
      go_ret
      exact ⟨rfl, clk_set h (by omega), hB _, hO _⟩
    · have e : went t m = m := by unfold went; omega
      rw [e]
      clear e
      go_enter Tryd.func52, Tryd.ntmps52
      go_wp2_with (go_at_call 61; refine (cleft_any g t _ ht h).mono ?_; rintro e w' ⟨rfl, rfl⟩)
      go_ret
      exact ⟨rfl, clk_set h (by omega), hB _, hO _⟩

theorem tick_eq (t : Nat) : ((went t 1 : Nat) : Int) = 0 ∨ ((went t 1 : Nat) : Int) = 1 := by unfold went; omega
theorem ctick_any (g t : Nat) (w : World) (ht : t ≤ 18446744073709551615) (h : IsClk w g t) :
    Calls Tryd.prog 35 #[.pointer (some ⟨g, 0, none⟩)] w fun e w' => e = .returned (.bool (((went t 1 : Nat) : Int) == 1)) ∧ IsClk w' g (t + went t 1) ∧ Below g w w' ∧ Only g w w' := by
  go_enter Tryd.func35, Tryd.ntmps35
  go_wp2_with fail
  refine (crun_any g t 1 _ ht (by omega) h).mono ?_
  rintro e w' ⟨rfl, h1, h2, h3⟩
  go_wp2
  go_ret
  exact ⟨rfl, h1, h2, h3⟩

/-- The same, the numbers by their names. -/
theorem crun_at (g t : Nat) (n : Int) (N T : Nat) (w : World) (ht : t ≤ 18446744073709551615) (hn : n ≤ 9223372036854775807) (hN : went t n = N) (hT : t + N = T) (h : IsClk w g t) :
    Calls Tryd.prog 52 #[.pointer (some ⟨g, 0, none⟩), .int .i64 n] w fun e w' => e = .returned (.int .i64 N) ∧ IsClk w' g T ∧ Below g w w' ∧ Only g w w' := by
  subst hN; subst hT; exact crun_any g t n w ht hn h
theorem ctick_at (g t : Nat) (b : Bool) (T : Nat) (w : World) (ht : t ≤ 18446744073709551615) (hb : (((went t 1 : Nat) : Int) == 1) = b) (hT : t + went t 1 = T) (h : IsClk w g t) :
    Calls Tryd.prog 35 #[.pointer (some ⟨g, 0, none⟩)] w fun e w' => e = .returned (.bool b) ∧ IsClk w' g T ∧ Below g w w' ∧ Only g w w' := by
  subst hb; subst hT; exact ctick_any g t w ht h
theorem chalt_at (g t : Nat) (b : Bool) (w : World) (hb : ((t : Int) == 18446744073709551615) = b) (h : IsClk w g t) :
    Calls Tryd.prog 44 #[.pointer (some ⟨g, 0, none⟩)] w fun e w' => e = .returned (.bool b) ∧ w = w' := by
  subst hb; exact chalt_any g t w h
theorem cleft_at (g t L : Nat) (w : World) (ht : t ≤ 18446744073709551615) (hL : 18446744073709551615 - t = L) (h : IsClk w g t) :
    Calls Tryd.prog 61 #[.pointer (some ⟨g, 0, none⟩)] w fun e w' => e = .returned (.int .u64 L) ∧ w = w' := by
  subst hL; exact cleft_any g t w ht h
theorem cleft_int (g t : Nat) (w : World) (ht : t ≤ 18446744073709551615) (h : IsClk w g t) :
    Calls Tryd.prog 61 #[.pointer (some ⟨g, 0, none⟩)] w fun e w' => e = .returned (.int .u64 (18446744073709551615 - (t : Int))) ∧ w = w' := by
  have e : ((18446744073709551615 - t : Nat) : Int) = 18446744073709551615 - (t : Int) := by omega
  have c := cleft_any g t w ht h
  rw [e] at c
  exact c
end Go.Proofs.YtofcjkfaccdnjaaDoor.Clk
