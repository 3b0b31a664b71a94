
/- The function StatusTexts returns true for every status and every text. Condition: the package-level variables hold what the program and the library lay in them (the card ties that). The variables that the row lists are tied to the program's own text: the card. -/

import Derived.Test.YtkikghmigjkjiaaDoorStatusTexts

import Derived.Test.YtkikghmigjkjiaaDoorCards

import Derived.Test.YtkikghmigjkjiaaDoorTie

import Derived.SevenTiedAt

namespace Go.Proofs.YtkikghmigjkjiaaDoor.statusTexts

open Go

theorem card : Rows.StatusTextsCardSaid :=
  Claim7.holds_tied_plain_at .later [] _ true _ _
    over (fun _ h => by cases h) (by kernel_rfl) (fun _ h => by cases h) statusTexts_row_tie rfl ⟨rfl, rfl⟩ (by kernel_rfl) rfl
    (fun f fn hf hfn => by
      obtain rfl : f = 5 := Option.some.inj ((show Tryd.prog.funcNamed Rows.statusTextsRow.func = some 5 by kernel_rfl).symm.trans hf) |>.symm
      obtain rfl : fn = Tryd.f5 := (Option.some.inj (Tryd.func5.symm.trans hfn)).symm
      exact ⟨by kernel_rfl, fun j t ht => by
        rw [Tryd.params5] at ht
        have hm : t ∈ [25, 9] := by simpa using Array.mem_of_getElem? ht
        have hall : ([25, 9].all fun u => !Tryd.prog.wantsStandIn u) = true := by kernel_rfl
        exact (show Tryd.prog.wantsStandIn t = false by simpa using List.all_eq_true.1 hall t hm)⟩)
    (by kernel_rfl)
end Go.Proofs.YtkikghmigjkjiaaDoor.statusTexts
