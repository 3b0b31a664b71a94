/- The function CrcSums returns true for every text. Condition: none. This text: the walk through the Go text; the row is in the text without the W at its name's end. -/
import Derived.Test.YtlfhldfclleclaaArgs
import Derived.Test.YtlfhldfclleclaaCrcD
namespace Go.Proofs.Ytlfhldfclleclaa.crcSums
open Go.RowKit Go.PlainAid Go.Proofs.Ytlfhldfclleclaa.Args
set_option linter.unusedVariables false

open Go.Proofs.Ytlfhldfclleclaa.Crc
set_option maxHeartbeats 800000 in
theorem walk (a0 : ByteArray) (w : World) (w0 : a0.size ≤ maxLen) :
    Calls Try.prog 6 #[.string a0] w fun e w' => e = .returned (.bool true) ∧ Below w.heap.size w w' := by
  unfold maxLen at w0
  by_cases hl : 2000 < (a0.size : Int)
  · have t : decide (2000 < (a0.size : Int)) = true := decide_eq_true hl
    clear hl
    go_enter Try.func6, Try.ntmps6
    go_wp2_with (go_at_call 22; refine (awake_any _).mono ?_; rintro e w' ⟨rfl, hb⟩)
    go_ret
    exact ⟨rfl, hb⟩
  · have t : decide (2000 < (a0.size : Int)) = false := decide_eq_false hl
    have HS : Hid (a0.size ≤ 2305843009213693952) := by show _ ≤ _; omega
    obtain ⟨V, hV⟩ : ∃ V, V = sum a0.data.toList := ⟨_, rfl⟩
    have H1 : Hid (∀ w : World, Calls Try.prog 23 #[.string a0] w fun e w' => e = .returned (.int .u32 V) ∧ Below w.heap.size w w') := by intro w; rw [hV]; exact csum_any a0 HS.out w
    have H2 : Hid (∀ w : World, Calls Try.prog 24 #[.string a0] w fun e w' => e = .returned (.int .u32 V) ∧ w = w') := by intro w; rw [hV]; exact rsum_any a0 HS.out w
    clear hl hV
    go_enter Try.func6, Try.ntmps6
    go_wp2_with (first
      | (go_at_call 23; refine (H1.out _).mono ?_; rintro e w1 ⟨rfl, hb1⟩)
      | (go_at_call 24; refine (H2.out _).mono ?_; rintro e w' ⟨rfl, rfl⟩)
      | (go_at_call 22; refine (awake_any _).mono ?_; rintro e w2 ⟨rfl, hb2⟩))
    go_ret
    exact ⟨rfl, hb1.trans (hb2.mono hb1.size)⟩

end Go.Proofs.Ytlfhldfclleclaa.crcSums
