/-
  DERIVED. GIVEN WITH THE SEED: THE CARDS: each row of YtmcmmbkodllpkaaGreatDoorRows.lean that lists a variable, with what it lists TIED to the program's text (the seventh form; the later family's looks); each row that meets fmt, with fmt's text TOLD by the authors' own Lean function (tested against real Go, not proved from fmt's source: count such statements apart). THE CARD IS WHAT COUNTS. Prove the row's statement (the work); the ties are given (YtmcmmbkodllpkaaGreatDoorTie.lean); close each card by the builder's one call (the guide's Derived/Test/ToyasCard.lean, 'card_holds'). Laid BY PROGRAM, IN A SANDBOX (cutbox-door.mjs). By AI agents, Wed Nov 11 2026. No macro, syntax, notation, axiom, sorry.
-/
import Derived.Test.YtmcmmbkodllpkaaGreatDoorRows
import GoSem.ClaimSeven
namespace Go.Proofs.YtmcmmbkodllpkaaGreatDoor
namespace Rows

/-- THE TIED CARD OF 'countwheellaw16.CheckModules'. -/
def checkModulesCard : Claim7 := { stood := { row := checkModulesRow, standIns := [], harness := (true, "3beed57d6672021934f858f9ac6da892f02b159e5386405f544f6f53ef23c943"), looks := true }, kinds := [], alts := [], laidByText := true, laidKinds := [.handle, .data], laidTests := true, laidLooks := .later }
def CheckModulesCardSaid : Prop := Claim7.holds Tryz.pinned (.plain (OpenSpec.ofChange checkModulesSpec)) checkModulesCard

/-- THE TIED CARD OF 'countwheellaw16.CheckTexts'. -/
def checkTextsCard : Claim7 := { stood := { row := checkTextsRow, standIns := [], harness := (true, "3beed57d6672021934f858f9ac6da892f02b159e5386405f544f6f53ef23c943"), looks := true }, kinds := [], alts := [], laidByText := true, laidKinds := [.data, .data, .data, .handle, .data], laidTests := true, laidLooks := .later }
def CheckTextsCardSaid : Prop := Claim7.holds Tryz.pinned (.plain (OpenSpec.ofChange checkTextsSpec)) checkTextsCard

/-- THE SECOND FORM's CARD OF 'countwheellaw16.CheckModules'. -/
def checkModulesUptoCard : Claim7 := { stood := { row := checkModulesUptoRow, standIns := [], harness := (true, "3beed57d6672021934f858f9ac6da892f02b159e5386405f544f6f53ef23c943"), looks := true }, kinds := [], alts := [], laidByText := true, laidKinds := [.handle, .data], laidTests := true, laidLooks := .later }
def CheckModulesUptoCardSaid : Prop := Claim7.holds Tryz.pinned (.plain (OpenSpec.upto checkModulesSpec)) checkModulesUptoCard

/-- THE SECOND FORM's CARD OF 'countwheellaw16.CheckTexts'. -/
def checkTextsUptoCard : Claim7 := { stood := { row := checkTextsUptoRow, standIns := [], harness := (true, "3beed57d6672021934f858f9ac6da892f02b159e5386405f544f6f53ef23c943"), looks := true }, kinds := [], alts := [], laidByText := true, laidKinds := [.data, .data, .data, .handle, .data], laidTests := true, laidLooks := .later }
def CheckTextsUptoCardSaid : Prop := Claim7.holds Tryz.pinned (.plain (OpenSpec.upto checkTextsSpec)) checkTextsUptoCard
end Rows
end Go.Proofs.YtmcmmbkodllpkaaGreatDoor
