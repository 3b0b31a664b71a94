/- The function OctetGets returns true for every text, every place and every size. Condition: none. This text: the walk through the Go text; the row is in the text without the W at its name's end. -/
import Derived.Test.YtlfhldfclleclaaArgs
import Derived.Test.YtlfhldfclleclaaOctW
namespace Go.Proofs.Ytlfhldfclleclaa.octetGets
open Go.RowKit Go.PlainAid Go.Proofs.Ytlfhldfclleclaa.Args
set_option linter.unusedVariables false

open Go.Proofs.Ytlfhldfclleclaa.Oct
set_option maxHeartbeats 800000 in
theorem walk (a0 : ByteArray) (a1 : Int) (a2 : Int) (w : World) (w0 : a0.size ≤ maxLen) (w1 : (Lit.int .i64 a1).wf = true) (w2 : (Lit.int .i64 a2).wf = true) :
    Calls Try.prog 4 #[.string a0, .int .i64 a1, .int .i64 a2] w fun e w' => e = .returned (.bool true) ∧ Below w.heap.size w w' := by
  have b1 := bounds_i64 w1
  by_cases hl : 200 < (a0.size : Int)
  · have t : decide (200 < (a0.size : Int)) = true := decide_eq_true hl
    unfold maxLen at w0
    go_enter Try.func4, Try.ntmps4
    go_wp2_with (go_at_call 9; refine (awake_any _).mono ?_; rintro e w' ⟨rfl, hb⟩)
    go_ret
    exact ⟨rfl, hb⟩
  · have t : decide (200 < (a0.size : Int)) = false := decide_eq_false hl
    have W0 := Lib.hid w0
    have B1 := Lib.hid b1
    have hs : a0.size ≤ 200 := by omega
    clear w0 w2 b1 w1
    go_enter Try.func4, Try.ntmps4
    go_wp2_with (first
      | (go_at_call 13; refine (get_any a0 a1 a2 B1.out W0.out _).mono ?_; rintro e w' ⟨rfl, rfl⟩)
      | (go_at_call 15; refine (rget_any a0 a1 a2 B1.out W0.out _).mono ?_; rintro e w' ⟨rfl, rfl⟩)
      | (go_at_call 9; refine (awake_any _).mono ?_; rintro e w' ⟨rfl, hb⟩))
    go_ret
    exact ⟨rfl, hb⟩

end Go.Proofs.Ytlfhldfclleclaa.octetGets
