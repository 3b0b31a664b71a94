/- The function PlanMakes returns true for every two numbers and every slice of needs. Condition: the package-level variables hold what the program lays in them (the card ties that). The variables that the row lists are tied to the program's own text: the card. -/
import Derived.Test.YtpjillclladjaaaDoorMg50
import Derived.Test.YtpjillclladjaaaDoorCards
import Derived.Test.YtpjillclladjaaaDoorTie
import Derived.SevenTiedAt
namespace Go.Proofs.YtpjillclladjaaaDoor.planMakes

open Go

theorem card : Rows.PlanMakesCardSaid :=
  Claim7.holds_tied_plain_at .later [] _ true _ _
    over (fun _ h => by cases h) (by kernel_rfl) (fun _ h => by cases h) planMakes_row_tie rfl ⟨rfl, rfl⟩ (by kernel_rfl) rfl
    (fun f fn hf hfn => by
      obtain rfl : f = 3 := Option.some.inj ((show Tryd.prog.funcNamed Rows.planMakesRow.func = some 3 by kernel_rfl).symm.trans hf) |>.symm
      obtain rfl : fn = Tryd.f3 := (Option.some.inj (Tryd.func3.symm.trans hfn)).symm
      exact ⟨by kernel_rfl, fun j t ht => by
        rw [Tryd.params3] at ht
        have hm : t ∈ [3, 22] := by simpa using Array.mem_of_getElem? ht
        have hall : ([3, 22].all fun u => !Tryd.prog.wantsStandIn u) = true := by kernel_rfl
        exact (show Tryd.prog.wantsStandIn t = false by simpa using List.all_eq_true.1 hall t hm)⟩)
    (by kernel_rfl)
end Go.Proofs.YtpjillclladjaaaDoor.planMakes
