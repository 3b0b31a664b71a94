/-
  DERIVED. GIVEN WITH THE SEED: THE CARDS: each row of YtnmcmeifbnpdaaaDoorRows.lean that lists a variable, with what it lists TIED to the program's text (the seventh form; the later family's looks); each row that meets fmt, with fmt's text TOLD by the authors' own Lean function (tested against real Go, not proved from fmt's source: count such statements apart). THE CARD IS WHAT COUNTS. Prove the row's statement (the work); the ties are given (YtnmcmeifbnpdaaaDoorTie.lean); close each card by the builder's one call (the guide's Derived/Test/ToyasCard.lean, 'card_holds'). Laid BY PROGRAM, IN A SANDBOX (cutbox-door.mjs). By AI agents, Wed Nov 11 2026. No macro, syntax, notation, axiom, sorry.
-/
import Derived.Test.YtnmcmeifbnpdaaaDoorRows
import GoSem.ClaimSeven
namespace Go.Proofs.YtnmcmeifbnpdaaaDoor
namespace Rows

/-- THE TIED CARD OF 'countwheellaw19.ModeSets'. -/
def modeSetsCard : Claim7 := { stood := { row := modeSetsRow, standIns := [], harness := (true, "e3936c20167fddf42fd226cabe0cbfe45dcf2b8963c36b3c570ce6eaea20edc7"), looks := false }, kinds := [], alts := [], laidByText := true, laidKinds := [.data], laidTests := true, laidLooks := .later }
def ModeSetsCardSaid : Prop := Claim7.holds Tryd.pinned (.plain (OpenSpec.ofChange modeSetsSpec)) modeSetsCard

/-- THE SECOND FORM's CARD OF 'countwheellaw19.ModeSets'. -/
def modeSetsUptoCard : Claim7 := { stood := { row := modeSetsUptoRow, standIns := [], harness := (true, "e3936c20167fddf42fd226cabe0cbfe45dcf2b8963c36b3c570ce6eaea20edc7"), looks := false }, kinds := [], alts := [], laidByText := true, laidKinds := [.data], laidTests := true, laidLooks := .later }
def ModeSetsUptoCardSaid : Prop := Claim7.holds Tryd.pinned (.plain (OpenSpec.upto modeSetsSpec)) modeSetsUptoCard
end Rows
end Go.Proofs.YtnmcmeifbnpdaaaDoor
