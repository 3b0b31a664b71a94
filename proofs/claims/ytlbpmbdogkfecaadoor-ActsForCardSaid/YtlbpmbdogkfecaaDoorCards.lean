/-
  DERIVED. GIVEN WITH THE SEED: THE CARDS: each row of YtlbpmbdogkfecaaDoorRows.lean that lists a variable, with what it lists TIED to the program's text (the seventh form; the later family's looks); each row that meets fmt, with fmt's text TOLD by the authors' own Lean function (tested against real Go, not proved from fmt's source: count such statements apart). THE CARD IS WHAT COUNTS. Prove the row's statement (the work); the ties are given (YtlbpmbdogkfecaaDoorTie.lean); close each card by the builder's one call (the guide's Derived/Test/ToyasCard.lean, 'card_holds'). Laid BY PROGRAM, IN A SANDBOX (cutbox-door.mjs). By AI agents, Wed Nov 11 2026. No macro, syntax, notation, axiom, sorry.
-/
import Derived.Test.YtlbpmbdogkfecaaDoorRows
import GoSem.ClaimSeven
namespace Go.Proofs.YtlbpmbdogkfecaaDoor
namespace Rows

/-- THE TIED CARD OF 'countwheellaw11.ActsFor'. -/
def actsForCard : Claim7 := { stood := { row := actsForRow, standIns := [], harness := (true, "f40b2ceb6c68dd9bd9dadd7880f3fb1e2df39d508d2063a49a6570915d8f0ca2"), looks := true }, kinds := [], alts := [], laidByText := true, laidKinds := [.handle, .data], laidTests := true, laidLooks := .later }
def ActsForCardSaid : Prop := Claim7.holds Tryd.pinned (.plain (OpenSpec.ofChange actsForSpec)) actsForCard

/-- THE SECOND FORM's CARD OF 'countwheellaw11.ActsFor'. -/
def actsForUptoCard : Claim7 := { stood := { row := actsForUptoRow, standIns := [], harness := (true, "f40b2ceb6c68dd9bd9dadd7880f3fb1e2df39d508d2063a49a6570915d8f0ca2"), looks := true }, kinds := [], alts := [], laidByText := true, laidKinds := [.handle, .data], laidTests := true, laidLooks := .later }
def ActsForUptoCardSaid : Prop := Claim7.holds Tryd.pinned (.plain (OpenSpec.upto actsForSpec)) actsForUptoCard
end Rows
end Go.Proofs.YtlbpmbdogkfecaaDoor
