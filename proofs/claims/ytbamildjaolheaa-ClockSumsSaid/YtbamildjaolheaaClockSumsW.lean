/- The function ClockSums returns true for every two numbers. Condition: none. This text: the walk through the Go text; the row is in the text without the W at its name's end. -/
import Derived.Test.YtbamildjaolheaaArgs
import Derived.Test.YtbamildjaolheaaClkB
namespace Go.Proofs.Ytbamildjaolheaa.clockSums
open Go.RowKit Go.PlainAid Go.Proofs.Ytbamildjaolheaa.Args
set_option linter.unusedVariables false

open Go.Proofs.Ytbamildjaolheaa.Clk
set_option maxHeartbeats 800000 in
theorem walk (a0 : Int) (a1 : Int) (w : World) (w0 : (Lit.int .u64 a0).wf = true) (w1 : (Lit.int .u64 a1).wf = true) :
    Calls Try.prog 4 #[.int .u64 a0, .int .u64 a1] w fun e w' => e = .returned (.bool true) ∧ Below w.heap.size w w' := by
  have b0 := bounds_u64 w0
  have b1 := bounds_u64 w1
  obtain ⟨a, rfl⟩ : ∃ a : Nat, a0 = a := ⟨a0.toNat, by omega⟩
  obtain ⟨b, rfl⟩ : ∃ b : Nat, a1 = b := ⟨a1.toNat, by omega⟩
  have ha : a ≤ 18446744073709551615 := by omega
  have hb : b ≤ 18446744073709551615 := by omega
  clear w0 w1 b0 b1
  obtain ⟨S, hS⟩ : ∃ S, sat (a + b) = S := ⟨_, rfl⟩
  obtain ⟨P, hP⟩ : ∃ P, sat (a * b) = P := ⟨_, rfl⟩
  have H1 : Hid (∀ w, Calls Try.prog 16 #[.int .u64 a, .int .u64 b] w fun e w' => e = .returned (.int .u64 S) ∧ w = w') := fun w => by rw [← hS]; exact sum_any a b ha hb w
  have H2 : Hid (∀ w, Calls Try.prog 17 #[.int .u64 a, .int .u64 b] w fun e w' => e = .returned (.int .u64 S) ∧ w = w') := fun w => by rw [← hS]; exact rsum_any a b ha hb w
  have H3 : Hid (∀ w, Calls Try.prog 18 #[.int .u64 a, .int .u64 b] w fun e w' => e = .returned (.int .u64 P) ∧ w = w') := fun w => by rw [← hP]; exact prod_any a b ha hb w
  have H4 : Hid (∀ w, Calls Try.prog 19 #[.int .u64 a, .int .u64 b] w fun e w' => e = .returned (.int .u64 P) ∧ w = w') := fun w => by rw [← hP]; exact rprod_any a b ha hb w
  clear hS hP ha hb
  go_enter Try.func4, Try.ntmps4
  go_wp2_with (first
    | (go_at_call 16; refine (H1.out _).mono ?_; rintro e w' ⟨rfl, rfl⟩)
    | (go_at_call 17; refine (H2.out _).mono ?_; rintro e w' ⟨rfl, rfl⟩)
    | (go_at_call 18; refine (H3.out _).mono ?_; rintro e w' ⟨rfl, rfl⟩)
    | (go_at_call 19; refine (H4.out _).mono ?_; rintro e w' ⟨rfl, rfl⟩)
    | (go_at_call 7; refine (awake_any _).mono ?_; rintro e w' ⟨rfl, hbel⟩))
  go_ret
  exact ⟨rfl, hbel⟩

end Go.Proofs.Ytbamildjaolheaa.clockSums
