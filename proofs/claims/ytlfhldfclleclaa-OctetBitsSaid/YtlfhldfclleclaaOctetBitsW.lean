/- The function OctetBits returns true for every number, every place and every size. Condition: none. This text: the walk through the Go text; the row is in the text without the W at its name's end. -/
import Derived.Test.YtlfhldfclleclaaArgs
import Derived.Test.YtlfhldfclleclaaOctW
namespace Go.Proofs.Ytlfhldfclleclaa.octetBits
open Go.RowKit Go.PlainAid Go.Proofs.Ytlfhldfclleclaa.Args
set_option linter.unusedVariables false

open Go.Proofs.Ytlfhldfclleclaa.Oct
set_option maxHeartbeats 800000 in
theorem walk (a0 : Int) (a1 : Int) (a2 : Int) (w : World) (w0 : (Lit.int .u64 a0).wf = true) (w1 : (Lit.int .i64 a1).wf = true) (w2 : (Lit.int .i64 a2).wf = true) :
    Calls Try.prog 5 #[.int .u64 a0, .int .i64 a1, .int .i64 a2] w fun e w' => e = .returned (.bool true) ∧ Below w.heap.size w w' := by
  have b0 : 0 ≤ a0 ∧ a0 ≤ 18446744073709551615 := bounds_u64 w0
  obtain ⟨v, rfl⟩ : ∃ v : Nat, a0 = v := ⟨a0.toNat, by omega⟩
  have hv : v ≤ 18446744073709551615 := by omega
  clear w0 w1 w2 b0
  rcases (show a1 < 0 ∨ 63 < a1 ∨ (0 ≤ a1 ∧ a1 ≤ 63) by omega) with h | h | ⟨h0, h1⟩
  · have t : decide (0 ≤ a1) = false := decide_eq_false (by omega)
    go_enter Try.func5, Try.ntmps5
    go_wp2_with (first
      | (go_at_call 17; refine (bit_out v _ (.inl h) _).mono ?_; rintro e w' ⟨rfl, rfl⟩)
      | (go_at_call 18; refine (count_any v hv _).mono ?_; rintro e w' ⟨rfl, rfl⟩)
      | (go_at_call 19; refine (rcount_any v hv _).mono ?_; rintro e w' ⟨rfl, rfl⟩)
      | (go_at_call 20; refine (signed_any v _ hv _).mono ?_; rintro e w' ⟨rfl, rfl⟩)
      | (go_at_call 21; refine (rsigned_any v _ hv _).mono ?_; rintro e w' ⟨rfl, rfl⟩)
      | (go_at_call 9; refine (awake_any _).mono ?_; rintro e w' ⟨rfl, hb⟩))
    go_ret
    exact ⟨rfl, hb⟩
  · have t : decide (a1 < 64) = false := decide_eq_false (by omega)
    have t' : decide (0 ≤ a1) = true := decide_eq_true (by omega)
    go_enter Try.func5, Try.ntmps5
    go_wp2_with (first
      | (go_at_call 17; refine (bit_out v _ (.inr h) _).mono ?_; rintro e w' ⟨rfl, rfl⟩)
      | (go_at_call 18; refine (count_any v hv _).mono ?_; rintro e w' ⟨rfl, rfl⟩)
      | (go_at_call 19; refine (rcount_any v hv _).mono ?_; rintro e w' ⟨rfl, rfl⟩)
      | (go_at_call 20; refine (signed_any v _ hv _).mono ?_; rintro e w' ⟨rfl, rfl⟩)
      | (go_at_call 21; refine (rsigned_any v _ hv _).mono ?_; rintro e w' ⟨rfl, rfl⟩)
      | (go_at_call 9; refine (awake_any _).mono ?_; rintro e w' ⟨rfl, hb⟩))
    go_ret
    exact ⟨rfl, hb⟩
  · obtain ⟨k, rfl⟩ : ∃ k : Nat, a1 = k := ⟨a1.toNat, by omega⟩
    have hk : k ≤ 63 := by omega
    have t : decide ((k : Int) < 64) = true := decide_eq_true (by omega)
    have t' : decide (0 ≤ (k : Int)) = true := decide_eq_true (by omega)
    clear h0 h1
    go_enter Try.func5, Try.ntmps5
    go_wp2_with (first
      | (go_at_call 17; refine (bit_in v k hv hk _).mono ?_; rintro e w' ⟨rfl, rfl⟩)
      | (go_at_call 16; refine (rbit_in v k hv hk _).mono ?_; rintro e w' ⟨rfl, rfl⟩)
      | (go_at_call 18; refine (count_any v hv _).mono ?_; rintro e w' ⟨rfl, rfl⟩)
      | (go_at_call 19; refine (rcount_any v hv _).mono ?_; rintro e w' ⟨rfl, rfl⟩)
      | (go_at_call 20; refine (signed_any v _ hv _).mono ?_; rintro e w' ⟨rfl, rfl⟩)
      | (go_at_call 21; refine (rsigned_any v _ hv _).mono ?_; rintro e w' ⟨rfl, rfl⟩)
      | (go_at_call 9; refine (awake_any _).mono ?_; rintro e w' ⟨rfl, hb⟩))
    go_ret
    exact ⟨rfl, hb⟩

end Go.Proofs.Ytlfhldfclleclaa.octetBits
