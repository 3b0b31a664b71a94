/- The function CheckTexts returns true for every module. Condition: the package-level variables hold what the program lays in them (the card ties that). The variables that the row lists are tied to the program's own text: the card. -/
import Derived.Test.YtmcmmbkodllpkaaGreatDoorMh05
import Derived.Test.YtmcmmbkodllpkaaGreatDoorCards
import Derived.Test.YtmcmmbkodllpkaaGreatDoorTie
import Derived.SevenTiedAt
namespace Go.Proofs.YtmcmmbkodllpkaaGreatDoor.checkTexts

open Go

theorem card : Rows.CheckTextsCardSaid :=
  Claim7.holds_tied_plain_at .later [] _ true _ _
    over (fun _ h => by cases h) (by kernel_rfl) (fun _ h => by cases h) checkTexts_row_tie rfl ⟨rfl, rfl⟩ (by kernel_rfl) rfl
    (fun f fn hf hfn => by
      obtain rfl : f = 4 := Option.some.inj ((show Tryz.prog.funcNamed Rows.checkTextsRow.func = some 4 by kernel_rfl).symm.trans hf) |>.symm
      obtain rfl : fn = Tryz.f4 := (Option.some.inj (Tryz.func4.symm.trans hfn)).symm
      exact ⟨by kernel_rfl, fun j t ht => by
        rw [Tryz.params4] at ht
        have hm : t ∈ [28] := by simpa using Array.mem_of_getElem? ht
        have hall : ([28].all fun u => !Tryz.prog.wantsStandIn u) = true := by kernel_rfl
        exact (show Tryz.prog.wantsStandIn t = false by simpa using List.all_eq_true.1 hall t hm)⟩)
    (by kernel_rfl)
end Go.Proofs.YtmcmmbkodllpkaaGreatDoor.checkTexts
