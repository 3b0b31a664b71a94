/-
  DERIVED. GIVEN WITH THE SEED: THE CARDS: each row of YthpncnbcinfllaaDoorRows.lean that lists a variable, with what it lists TIED to the program's text (the seventh form; the later family's looks); each row that meets fmt, with fmt's text TOLD by the authors' own Lean function (tested against real Go, not proved from fmt's source: count such statements apart). THE CARD IS WHAT COUNTS. Prove the row's statement (the work); the ties are given (YthpncnbcinfllaaDoorTie.lean); close each card by the builder's one call (the guide's Derived/Test/ToyasCard.lean, 'card_holds'). Laid BY PROGRAM, IN A SANDBOX (cutbox-door.mjs). By AI agents, Wed Nov 11 2026. No macro, syntax, notation, axiom, sorry.
-/
import Derived.Test.YthpncnbcinfllaaDoorRows
import GoSem.ClaimSeven
namespace Go.Proofs.YthpncnbcinfllaaDoor
namespace Rows

/-- THE TIED CARD OF 'countwheellaw13.WindowOwners'. -/
def windowOwnersCard : Claim7 := { stood := { row := windowOwnersRow, standIns := [], harness := (true, "fa490627e14bc5f4abde9ebbe747d474a49da2f4c26cb19ca46c8e98c3386456"), looks := true }, kinds := [], alts := [], laidByText := true, laidKinds := [.handle, .data], laidTests := true, laidLooks := .later }
def WindowOwnersCardSaid : Prop := Claim7.holds Tryd.pinned (.plain (OpenSpec.ofChange windowOwnersSpec)) windowOwnersCard

/-- THE TIED CARD OF 'countwheellaw13.WindowRight'. -/
def windowRightCard : Claim7 := { stood := { row := windowRightRow, standIns := [], harness := (true, "fa490627e14bc5f4abde9ebbe747d474a49da2f4c26cb19ca46c8e98c3386456"), looks := true }, kinds := [], alts := [], laidByText := true, laidKinds := [.handle, .data], laidTests := true, laidLooks := .later }
def WindowRightCardSaid : Prop := Claim7.holds Tryd.pinned (.plain (OpenSpec.ofChange windowRightSpec)) windowRightCard

/-- THE SECOND FORM's CARD OF 'countwheellaw13.WindowOwners'. -/
def windowOwnersUptoCard : Claim7 := { stood := { row := windowOwnersUptoRow, standIns := [], harness := (true, "fa490627e14bc5f4abde9ebbe747d474a49da2f4c26cb19ca46c8e98c3386456"), looks := true }, kinds := [], alts := [], laidByText := true, laidKinds := [.handle, .data], laidTests := true, laidLooks := .later }
def WindowOwnersUptoCardSaid : Prop := Claim7.holds Tryd.pinned (.plain (OpenSpec.upto windowOwnersSpec)) windowOwnersUptoCard

/-- THE SECOND FORM's CARD OF 'countwheellaw13.WindowRight'. -/
def windowRightUptoCard : Claim7 := { stood := { row := windowRightUptoRow, standIns := [], harness := (true, "fa490627e14bc5f4abde9ebbe747d474a49da2f4c26cb19ca46c8e98c3386456"), looks := true }, kinds := [], alts := [], laidByText := true, laidKinds := [.handle, .data], laidTests := true, laidLooks := .later }
def WindowRightUptoCardSaid : Prop := Claim7.holds Tryd.pinned (.plain (OpenSpec.upto windowRightSpec)) windowRightUptoCard
end Rows
end Go.Proofs.YthpncnbcinfllaaDoor
