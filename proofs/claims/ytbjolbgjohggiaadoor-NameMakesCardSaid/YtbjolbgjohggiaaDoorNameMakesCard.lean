
/- The function NameMakes returns true for every number and every two texts. Condition: the package-level variables hold what the program lays in them (the card ties that). The variables that the row lists are tied to the program's own text: the card. -/

import Derived.Test.YtbjolbgjohggiaaDoorNameMakes

import Derived.Test.YtbjolbgjohggiaaDoorCards

import Derived.Test.YtbjolbgjohggiaaDoorTie

import Derived.SevenTiedAt

namespace Go.Proofs.YtbjolbgjohggiaaDoor.nameMakes

open Go

theorem card : Rows.NameMakesCardSaid :=
  Claim7.holds_tied_plain_at .later [] _ true _ _
    over (fun _ h => by cases h) (by kernel_rfl) (fun _ h => by cases h) nameMakes_row_tie rfl ⟨rfl, rfl⟩ (by kernel_rfl) rfl
    (fun f fn hf hfn => by
      obtain rfl : f = 8 := Option.some.inj ((show Tryd.prog.funcNamed Rows.nameMakesRow.func = some 8 by kernel_rfl).symm.trans hf) |>.symm
      obtain rfl : fn = Tryd.f8 := (Option.some.inj (Tryd.func8.symm.trans hfn)).symm
      exact ⟨by kernel_rfl, fun j t ht => by
        rw [Tryd.params8] at ht
        have hm : t ∈ [3, 9] := by simpa using Array.mem_of_getElem? ht
        have hall : ([3, 9].all fun u => !Tryd.prog.wantsStandIn u) = true := by kernel_rfl
        exact (show Tryd.prog.wantsStandIn t = false by simpa using List.all_eq_true.1 hall t hm)⟩)
    (by kernel_rfl)
end Go.Proofs.YtbjolbgjohggiaaDoor.nameMakes
