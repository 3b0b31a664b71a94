
/- The function StripBytes returns true for every two slices of numbers. Condition: the package-level variables hold what the program lays in them (the card ties that). The variables that the row lists are tied to the program's own text: the card. -/

import Derived.Test.YtilkicbokfgjlaaDoorStripBytes

import Derived.Test.YtilkicbokfgjlaaDoorCards

import Derived.Test.YtilkicbokfgjlaaDoorTie

import Derived.SevenTiedAt

namespace Go.Proofs.YtilkicbokfgjlaaDoor.stripBytes

open Go

theorem card : Rows.StripBytesCardSaid :=
  Claim7.holds_tied_plain_at .later [] _ true _ _
    over (fun _ h => by cases h) (by kernel_rfl) (fun _ h => by cases h) stripBytes_row_tie rfl ⟨rfl, rfl⟩ (by kernel_rfl) rfl
    (fun f fn hf hfn => by
      obtain rfl : f = 3 := Option.some.inj ((show Tryd.prog.funcNamed Rows.stripBytesRow.func = some 3 by kernel_rfl).symm.trans hf) |>.symm
      obtain rfl : fn = Tryd.f3 := (Option.some.inj (Tryd.func3.symm.trans hfn)).symm
      exact ⟨by kernel_rfl, fun j t ht => by
        rw [Tryd.params3] at ht
        have hm : t ∈ [22] := by simpa using Array.mem_of_getElem? ht
        have hall : ([22].all fun u => !Tryd.prog.wantsStandIn u) = true := by kernel_rfl
        exact (show Tryd.prog.wantsStandIn t = false by simpa using List.all_eq_true.1 hall t hm)⟩)
    (by kernel_rfl)
end Go.Proofs.YtilkicbokfgjlaaDoor.stripBytes
