
/- The function PairsPuts returns true for every slice of bytes and every slice of pairs. Condition: the package-level variables hold what the program lays in them (the card ties that). The variables that the row lists are tied to the program's own text: the card. -/

import Derived.Test.YtplllmfbpliciaaGreatDoorPairsPuts

import Derived.Test.YtplllmfbpliciaaGreatDoorCards

import Derived.Test.YtplllmfbpliciaaGreatDoorTie

import Derived.SevenTiedAt

namespace Go.Proofs.YtplllmfbpliciaaGreatDoor.pairsPuts

open Go

theorem card : Rows.PairsPutsCardSaid :=
  Claim7.holds_tied_plain_at .later [] _ true _ _
    over (fun _ h => by cases h) (by kernel_rfl) (fun _ h => by cases h) pairsPuts_row_tie rfl ⟨rfl, rfl⟩ (by kernel_rfl) rfl
    (fun f fn hf hfn => by
      obtain rfl : f = 3 := Option.some.inj ((show Tryz.prog.funcNamed Rows.pairsPutsRow.func = some 3 by kernel_rfl).symm.trans hf) |>.symm
      obtain rfl : fn = Tryz.f3 := (Option.some.inj (Tryz.func3.symm.trans hfn)).symm
      exact ⟨by kernel_rfl, fun j t ht => by
        rw [Tryz.params3] at ht
        have hm : t ∈ [22, 23] := by simpa using Array.mem_of_getElem? ht
        have hall : ([22, 23].all fun u => !Tryz.prog.wantsStandIn u) = true := by kernel_rfl
        exact (show Tryz.prog.wantsStandIn t = false by simpa using List.all_eq_true.1 hall t hm)⟩)
    (by kernel_rfl)
end Go.Proofs.YtplllmfbpliciaaGreatDoor.pairsPuts
