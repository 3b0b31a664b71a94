/-
  DERIVED. GIVEN WITH THE SEED: THE CARDS: each row of YtplllmfbpliciaaDoorRows.lean that lists a variable, with what it lists TIED to the program's text (the seventh form; the later family's looks); each row that meets fmt, with fmt's text TOLD by the authors' own Lean function (tested against real Go, not proved from fmt's source: count such statements apart). THE CARD IS WHAT COUNTS. Prove the row's statement (the work); the ties are given (YtplllmfbpliciaaDoorTie.lean); close each card by the builder's one call (the guide's Derived/Test/ToyasCard.lean, 'card_holds'). Laid BY PROGRAM, IN A SANDBOX (cutbox-door.mjs). By AI agents, Wed Nov 11 2026. No macro, syntax, notation, axiom, sorry.
-/
import Derived.Test.YtplllmfbpliciaaDoorRows
import GoSem.ClaimSeven
namespace Go.Proofs.YtplllmfbpliciaaDoor
namespace Rows

/-- THE TIED CARD OF 'countwheellaw13.WindowChecks'. -/
def windowChecksCard : Claim7 := { stood := { row := windowChecksRow, standIns := [], harness := (true, "cd44207fcb4bd87f30db6e4ddca1da55c8a62a0d06628cc4ae38588895e29b72"), looks := true }, kinds := [], alts := [], laidByText := true, laidKinds := [.handle, .data], laidTests := true, laidLooks := .later }
def WindowChecksCardSaid : Prop := Claim7.holds Tryd.pinned (.plain (OpenSpec.ofChange windowChecksSpec)) windowChecksCard

/-- THE TIED CARD OF 'countwheellaw13.WindowSorts'. -/
def windowSortsCard : Claim7 := { stood := { row := windowSortsRow, standIns := [], harness := (true, "cd44207fcb4bd87f30db6e4ddca1da55c8a62a0d06628cc4ae38588895e29b72"), looks := true }, kinds := [], alts := [], laidByText := true, laidKinds := [.handle, .data], laidTests := true, laidLooks := .later }
def WindowSortsCardSaid : Prop := Claim7.holds Tryd.pinned (.plain (OpenSpec.ofChange windowSortsSpec)) windowSortsCard

/-- THE SECOND FORM's CARD OF 'countwheellaw13.WindowChecks'. -/
def windowChecksUptoCard : Claim7 := { stood := { row := windowChecksUptoRow, standIns := [], harness := (true, "cd44207fcb4bd87f30db6e4ddca1da55c8a62a0d06628cc4ae38588895e29b72"), looks := true }, kinds := [], alts := [], laidByText := true, laidKinds := [.handle, .data], laidTests := true, laidLooks := .later }
def WindowChecksUptoCardSaid : Prop := Claim7.holds Tryd.pinned (.plain (OpenSpec.upto windowChecksSpec)) windowChecksUptoCard

/-- THE SECOND FORM's CARD OF 'countwheellaw13.WindowSorts'. -/
def windowSortsUptoCard : Claim7 := { stood := { row := windowSortsUptoRow, standIns := [], harness := (true, "cd44207fcb4bd87f30db6e4ddca1da55c8a62a0d06628cc4ae38588895e29b72"), looks := true }, kinds := [], alts := [], laidByText := true, laidKinds := [.handle, .data], laidTests := true, laidLooks := .later }
def WindowSortsUptoCardSaid : Prop := Claim7.holds Tryd.pinned (.plain (OpenSpec.upto windowSortsSpec)) windowSortsUptoCard
end Rows
end Go.Proofs.YtplllmfbpliciaaDoor
