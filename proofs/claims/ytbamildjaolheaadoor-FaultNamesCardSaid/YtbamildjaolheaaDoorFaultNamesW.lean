/- The function FaultNames returns true for every number and every text. Condition: the package-level variables hold what the program lays in them (the card ties that). This text: the walk through the Go text; the row is in the text without the W at its name's end. -/
import Derived.Test.YtbamildjaolheaaDoorArgs
import Derived.Test.YtbamildjaolheaaDoorFltF
namespace Go.Proofs.YtbamildjaolheaaDoor.faultNames
open Go.RowKit Go.PlainAid Go.Proofs.YtbamildjaolheaaDoor.Args
set_option linter.unusedVariables false

open Go.Proofs.YtbamildjaolheaaDoor.Flt
set_option maxRecDepth 4000 in
set_option maxHeartbeats 800000 in
theorem walk (a0 : Int) (a1 : ByteArray) (w : World) (w0 : (Lit.int .i64 a0).wf = true) (w1 : a1.size ≤ maxLen) (hn : Go.Proofs.YtbamildjaolheaaDoor.Flt.Names w) :
    Calls Tryd.prog 4 #[.int .i64 a0, .string a1] w fun e w' => e = .returned (.bool true) ∧ Below w.heap.size w w' := by
  have HN := Lib.hid hn
  clear hn
  have b0 := bounds_i64 w0
  by_cases hl : 100 < (a1.size : Int)
  · have t : decide (100 < (a1.size : Int)) = true := decide_eq_true hl
    clear hl w0 w1 b0
    go_enter Tryd.func4, Tryd.ntmps4
    go_wp2_with (go_at_call 5; refine (awake_any _ HN.out).mono ?_; rintro e w' ⟨rfl, hb⟩)
    go_ret
    exact ⟨rfl, hb⟩
  · have t : decide (100 < (a1.size : Int)) = false := decide_eq_false hl
    have H1 : Hid (∀ w, Names w → Calls Tryd.prog 13 #[.int .i64 a0] w fun e w' => e = .returned (.string (nameV a0)) ∧ w = w') := fun w hn => name_any a0 b0 w hn
    have H2 : Hid (∀ w, Calls Tryd.prog 8 #[.int .i64 a0] w fun e w' => e = .returned (.string (nameV a0)) ∧ Below w.heap.size w w') := fun w => rname_any a0 b0 w
    obtain ⟨X, hX⟩ : ∃ X, nameV a0 = X := ⟨_, rfl⟩
    rw [hX] at H1 H2
    clear hl w0 w1 b0 hX
    go_enter Tryd.func4, Tryd.ntmps4
    go_wp2_with fail
    refine (named_any a1 _ HN.out).mono ?_
    rintro e w1 ⟨r, hr, rfl, rfl⟩
    go_wp2_with fail
    refine (rnamed_any a1 _).mono ?_
    rintro e w2 ⟨r', hr', rfl, hb2⟩
    obtain rfl := named_one hr hr'
    have hrl := named_le hr
    have tr : decide (0 < (r : Int)) = decide (0 < r) := by rw [decide_eq_decide]; omega
    have HB2 := Lib.hid hb2
    clear hr hr' hb2
    go_wp2_with fail
    refine (H1.out _ (HN.out.kept HB2.out)).mono ?_
    rintro e w3 ⟨rfl, rfl⟩
    go_wp2_with fail
    refine (H2.out _).mono ?_
    rintro e w3 ⟨rfl, hb3⟩
    have HB3 : Hid (Below w.heap.size w w3) := HB2.out.trans (hb3.mono HB2.out.size)
    clear hb3
    go_wp2_with (go_at_call 5; refine (awake_any _ (HN.out.kept HB3.out)).mono ?_; rintro e w' ⟨rfl, hb⟩)
    go_ret
    exact ⟨rfl, HB3.out.trans (hb.mono HB3.out.size)⟩

end Go.Proofs.YtbamildjaolheaaDoor.faultNames
