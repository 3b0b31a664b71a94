/-
  DERIVED. GIVEN WITH THE SEED: THE CARDS: each row of YtkikghmigjkjiaaDoorRows.lean that lists a variable, with what it lists TIED to the program's text (the seventh form; the later family's looks); each row that meets fmt, with fmt's text TOLD by the authors' own Lean function (tested against real Go, not proved from fmt's source: count such statements apart). THE CARD IS WHAT COUNTS. Prove the row's statement (the work); the ties are given (YtkikghmigjkjiaaDoorTie.lean); close each card by the builder's one call (the guide's Derived/Test/ToyasCard.lean, 'card_holds'). Laid BY PROGRAM, IN A SANDBOX (cutbox-door.mjs). By AI agents, Wed Nov 11 2026. No macro, syntax, notation, axiom, sorry.
-/
import Derived.Test.YtkikghmigjkjiaaDoorRows
import GoSem.ClaimSeven
namespace Go.Proofs.YtkikghmigjkjiaaDoor
namespace Rows

/-- THE TIED CARD OF 'countwheellaw23.StatusPuts'. -/
def statusPutsCard : Claim7 := { stood := { row := statusPutsRow, standIns := [], harness := (true, "8ed0ac8375b3ac33e8a285038ac49d59e5e9e73e61c7093f6755918483d8dc67"), looks := true }, kinds := [], alts := [], laidByText := true, laidKinds := [.data, .data, .data, .handle, .data], laidTests := true, laidLooks := .later }
def StatusPutsCardSaid : Prop := Claim7.holds Tryd.pinned (.plain (OpenSpec.ofChange statusPutsSpec)) statusPutsCard

/-- THE TIED CARD OF 'countwheellaw23.StatusGets'. -/
def statusGetsCard : Claim7 := { stood := { row := statusGetsRow, standIns := [], harness := (true, "8ed0ac8375b3ac33e8a285038ac49d59e5e9e73e61c7093f6755918483d8dc67"), looks := true }, kinds := [], alts := [], laidByText := true, laidKinds := [.data, .data, .data, .handle, .data], laidTests := true, laidLooks := .later }
def StatusGetsCardSaid : Prop := Claim7.holds Tryd.pinned (.plain (OpenSpec.ofChange statusGetsSpec)) statusGetsCard

/-- THE TIED CARD OF 'countwheellaw23.StatusTexts'. -/
def statusTextsCard : Claim7 := { stood := { row := statusTextsRow, standIns := [], harness := (true, "8ed0ac8375b3ac33e8a285038ac49d59e5e9e73e61c7093f6755918483d8dc67"), looks := true }, kinds := [], alts := [], laidByText := true, laidKinds := [.data, .data, .data, .data, .handle, .sentinel, .sentinel, .data, .pinned], laidTests := true, laidLooks := .later }
def StatusTextsCardSaid : Prop := Claim7.holds Tryd.pinned (.plain (OpenSpec.ofChange statusTextsSpec)) statusTextsCard

/-- THE SECOND FORM's CARD OF 'countwheellaw23.StatusPuts'. -/
def statusPutsUptoCard : Claim7 := { stood := { row := statusPutsUptoRow, standIns := [], harness := (true, "8ed0ac8375b3ac33e8a285038ac49d59e5e9e73e61c7093f6755918483d8dc67"), looks := true }, kinds := [], alts := [], laidByText := true, laidKinds := [.data, .data, .data, .handle, .data], laidTests := true, laidLooks := .later }
def StatusPutsUptoCardSaid : Prop := Claim7.holds Tryd.pinned (.plain (OpenSpec.upto statusPutsSpec)) statusPutsUptoCard

/-- THE SECOND FORM's CARD OF 'countwheellaw23.StatusGets'. -/
def statusGetsUptoCard : Claim7 := { stood := { row := statusGetsUptoRow, standIns := [], harness := (true, "8ed0ac8375b3ac33e8a285038ac49d59e5e9e73e61c7093f6755918483d8dc67"), looks := true }, kinds := [], alts := [], laidByText := true, laidKinds := [.data, .data, .data, .handle, .data], laidTests := true, laidLooks := .later }
def StatusGetsUptoCardSaid : Prop := Claim7.holds Tryd.pinned (.plain (OpenSpec.upto statusGetsSpec)) statusGetsUptoCard

/-- THE SECOND FORM's CARD OF 'countwheellaw23.StatusTexts'. -/
def statusTextsUptoCard : Claim7 := { stood := { row := statusTextsUptoRow, standIns := [], harness := (true, "8ed0ac8375b3ac33e8a285038ac49d59e5e9e73e61c7093f6755918483d8dc67"), looks := true }, kinds := [], alts := [], laidByText := true, laidKinds := [.data, .data, .data, .data, .handle, .sentinel, .sentinel, .data, .pinned], laidTests := true, laidLooks := .later }
def StatusTextsUptoCardSaid : Prop := Claim7.holds Tryd.pinned (.plain (OpenSpec.upto statusTextsSpec)) statusTextsUptoCard
end Rows
end Go.Proofs.YtkikghmigjkjiaaDoor
