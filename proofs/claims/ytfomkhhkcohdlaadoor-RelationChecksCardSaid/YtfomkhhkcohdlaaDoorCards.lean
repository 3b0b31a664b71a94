/-
  DERIVED. GIVEN WITH THE SEED: THE CARDS: each row of YtfomkhhkcohdlaaDoorRows.lean that lists a variable, with what it lists TIED to the program's text (the seventh form; the later family's looks); each row that meets fmt, with fmt's text TOLD by the authors' own Lean function (tested against real Go, not proved from fmt's source: count such statements apart). THE CARD IS WHAT COUNTS. Prove the row's statement (the work); the ties are given (YtfomkhhkcohdlaaDoorTie.lean); close each card by the builder's one call (the guide's Derived/Test/ToyasCard.lean, 'card_holds'). Laid BY PROGRAM, IN A SANDBOX (cutbox-door.mjs). By AI agents, Wed Nov 11 2026. No macro, syntax, notation, axiom, sorry.
-/
import Derived.Test.YtfomkhhkcohdlaaDoorRows
import GoSem.ClaimSeven
namespace Go.Proofs.YtfomkhhkcohdlaaDoor
namespace Rows

/-- THE TIED CARD OF 'countwheellaw15.RelationChecks'. -/
def relationChecksCard : Claim7 := { stood := { row := relationChecksRow, standIns := [], harness := (true, "8252520cb6b7f069c26cd88b2399b3050ff89896cff6b03678ddd4492144dfd6"), looks := true }, kinds := [], alts := [], laidByText := true, laidKinds := [.handle, .data], laidTests := true, laidLooks := .later }
def RelationChecksCardSaid : Prop := Claim7.holds Tryd.pinned (.plain (OpenSpec.ofChange relationChecksSpec)) relationChecksCard

/-- THE SECOND FORM's CARD OF 'countwheellaw15.RelationChecks'. -/
def relationChecksUptoCard : Claim7 := { stood := { row := relationChecksUptoRow, standIns := [], harness := (true, "8252520cb6b7f069c26cd88b2399b3050ff89896cff6b03678ddd4492144dfd6"), looks := true }, kinds := [], alts := [], laidByText := true, laidKinds := [.handle, .data], laidTests := true, laidLooks := .later }
def RelationChecksUptoCardSaid : Prop := Claim7.holds Tryd.pinned (.plain (OpenSpec.upto relationChecksSpec)) relationChecksUptoCard
end Rows
end Go.Proofs.YtfomkhhkcohdlaaDoor
