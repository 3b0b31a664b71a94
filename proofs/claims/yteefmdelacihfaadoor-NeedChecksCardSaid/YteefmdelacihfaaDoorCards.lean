/-
  DERIVED. GIVEN WITH THE SEED: THE CARDS: each row of YteefmdelacihfaaDoorRows.lean that lists a variable, with what it lists TIED to the program's text (the seventh form; the later family's looks); each row that meets fmt, with fmt's text TOLD by the authors' own Lean function (tested against real Go, not proved from fmt's source: count such statements apart). THE CARD IS WHAT COUNTS. Prove the row's statement (the work); the ties are given (YteefmdelacihfaaDoorTie.lean); close each card by the builder's one call (the guide's Derived/Test/ToyasCard.lean, 'card_holds'). Laid BY PROGRAM, IN A SANDBOX (cutbox-door.mjs). By AI agents, Wed Nov 11 2026. No macro, syntax, notation, axiom, sorry.
-/
import Derived.Test.YteefmdelacihfaaDoorRows
import GoSem.ClaimSeven
namespace Go.Proofs.YteefmdelacihfaaDoor
namespace Rows

/-- THE TIED CARD OF 'countwheellaw13.WindowOwners'. -/
def windowOwnersCard : Claim7 := { stood := { row := windowOwnersRow, standIns := [], harness := (true, "a0cf5bf1591728cd78987e72358070e8b6df144a927b3b37a3b4e7f6d18d6b87"), looks := true }, kinds := [], alts := [], laidByText := true, laidKinds := [.handle, .data], laidTests := true, laidLooks := .later }
def WindowOwnersCardSaid : Prop := Claim7.holds Tryd.pinned (.plain (OpenSpec.ofChange windowOwnersSpec)) windowOwnersCard

/-- THE TIED CARD OF 'countwheellaw14.NeedChecks'. -/
def needChecksCard : Claim7 := { stood := { row := needChecksRow, standIns := [], harness := (true, "a0cf5bf1591728cd78987e72358070e8b6df144a927b3b37a3b4e7f6d18d6b87"), looks := true }, kinds := [], alts := [], laidByText := true, laidKinds := [.handle, .data], laidTests := true, laidLooks := .later }
def NeedChecksCardSaid : Prop := Claim7.holds Tryd.pinned (.plain (OpenSpec.ofChange needChecksSpec)) needChecksCard

/-- THE SECOND FORM's CARD OF 'countwheellaw13.WindowOwners'. -/
def windowOwnersUptoCard : Claim7 := { stood := { row := windowOwnersUptoRow, standIns := [], harness := (true, "a0cf5bf1591728cd78987e72358070e8b6df144a927b3b37a3b4e7f6d18d6b87"), looks := true }, kinds := [], alts := [], laidByText := true, laidKinds := [.handle, .data], laidTests := true, laidLooks := .later }
def WindowOwnersUptoCardSaid : Prop := Claim7.holds Tryd.pinned (.plain (OpenSpec.upto windowOwnersSpec)) windowOwnersUptoCard

/-- THE SECOND FORM's CARD OF 'countwheellaw14.NeedChecks'. -/
def needChecksUptoCard : Claim7 := { stood := { row := needChecksUptoRow, standIns := [], harness := (true, "a0cf5bf1591728cd78987e72358070e8b6df144a927b3b37a3b4e7f6d18d6b87"), looks := true }, kinds := [], alts := [], laidByText := true, laidKinds := [.handle, .data], laidTests := true, laidLooks := .later }
def NeedChecksUptoCardSaid : Prop := Claim7.holds Tryd.pinned (.plain (OpenSpec.upto needChecksSpec)) needChecksUptoCard
end Rows
end Go.Proofs.YteefmdelacihfaaDoor
