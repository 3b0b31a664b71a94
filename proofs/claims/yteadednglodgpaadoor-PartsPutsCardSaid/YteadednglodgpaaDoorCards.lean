/-
  DERIVED. GIVEN WITH THE SEED: THE CARDS: each row of YteadednglodgpaaDoorRows.lean that lists a variable, with what it lists TIED to the program's text (the seventh form; the later family's looks); each row that meets fmt, with fmt's text TOLD by the authors' own Lean function (tested against real Go, not proved from fmt's source: count such statements apart). THE CARD IS WHAT COUNTS. Prove the row's statement (the work); the ties are given (YteadednglodgpaaDoorTie.lean); close each card by the builder's one call (the guide's Derived/Test/ToyasCard.lean, 'card_holds'). Laid BY PROGRAM, IN A SANDBOX (cutbox-door.mjs). By AI agents, Wed Nov 11 2026. No macro, syntax, notation, axiom, sorry.
-/
import Derived.Test.YteadednglodgpaaDoorRows
import GoSem.ClaimSeven
namespace Go.Proofs.YteadednglodgpaaDoor
namespace Rows

/-- THE TIED CARD OF 'countwheellaw07.HeaderPuts'. -/
def headerPutsCard : Claim7 := { stood := { row := headerPutsRow, standIns := [], harness := (true, "c1f3cd467c0bcce94cd975c5dbfee15a178ff724163d97075e48d7e0110a0311"), looks := true }, kinds := [], alts := [], laidByText := true, laidKinds := [.handle, .data, .data, .data], laidTests := true, laidLooks := .later }
def HeaderPutsCardSaid : Prop := Claim7.holds Tryd.pinned (.plain (OpenSpec.ofChange headerPutsSpec)) headerPutsCard

/-- THE TIED CARD OF 'countwheellaw07.HeaderReads'. -/
def headerReadsCard : Claim7 := { stood := { row := headerReadsRow, standIns := [], harness := (true, "c1f3cd467c0bcce94cd975c5dbfee15a178ff724163d97075e48d7e0110a0311"), looks := true }, kinds := [], alts := [], laidByText := true, laidKinds := [.handle, .data, .data, .data], laidTests := true, laidLooks := .later }
def HeaderReadsCardSaid : Prop := Claim7.holds Tryd.pinned (.plain (OpenSpec.ofChange headerReadsSpec)) headerReadsCard

/-- THE TIED CARD OF 'countwheellaw08.PartsPuts'. -/
def partsPutsCard : Claim7 := { stood := { row := partsPutsRow, standIns := [], harness := (true, "c1f3cd467c0bcce94cd975c5dbfee15a178ff724163d97075e48d7e0110a0311"), looks := true }, kinds := [], alts := [], laidByText := true, laidKinds := [.handle, .data], laidTests := true, laidLooks := .later }
def PartsPutsCardSaid : Prop := Claim7.holds Tryd.pinned (.plain (OpenSpec.ofChange partsPutsSpec)) partsPutsCard

/-- THE TIED CARD OF 'countwheellaw08.PartsFinds'. -/
def partsFindsCard : Claim7 := { stood := { row := partsFindsRow, standIns := [], harness := (true, "c1f3cd467c0bcce94cd975c5dbfee15a178ff724163d97075e48d7e0110a0311"), looks := true }, kinds := [], alts := [], laidByText := true, laidKinds := [.data], laidTests := true, laidLooks := .later }
def PartsFindsCardSaid : Prop := Claim7.holds Tryd.pinned (.plain (OpenSpec.ofChange partsFindsSpec)) partsFindsCard

/-- THE SECOND FORM's CARD OF 'countwheellaw07.HeaderPuts'. -/
def headerPutsUptoCard : Claim7 := { stood := { row := headerPutsUptoRow, standIns := [], harness := (true, "c1f3cd467c0bcce94cd975c5dbfee15a178ff724163d97075e48d7e0110a0311"), looks := true }, kinds := [], alts := [], laidByText := true, laidKinds := [.handle, .data, .data, .data], laidTests := true, laidLooks := .later }
def HeaderPutsUptoCardSaid : Prop := Claim7.holds Tryd.pinned (.plain (OpenSpec.upto headerPutsSpec)) headerPutsUptoCard

/-- THE SECOND FORM's CARD OF 'countwheellaw07.HeaderReads'. -/
def headerReadsUptoCard : Claim7 := { stood := { row := headerReadsUptoRow, standIns := [], harness := (true, "c1f3cd467c0bcce94cd975c5dbfee15a178ff724163d97075e48d7e0110a0311"), looks := true }, kinds := [], alts := [], laidByText := true, laidKinds := [.handle, .data, .data, .data], laidTests := true, laidLooks := .later }
def HeaderReadsUptoCardSaid : Prop := Claim7.holds Tryd.pinned (.plain (OpenSpec.upto headerReadsSpec)) headerReadsUptoCard

/-- THE SECOND FORM's CARD OF 'countwheellaw08.PartsPuts'. -/
def partsPutsUptoCard : Claim7 := { stood := { row := partsPutsUptoRow, standIns := [], harness := (true, "c1f3cd467c0bcce94cd975c5dbfee15a178ff724163d97075e48d7e0110a0311"), looks := true }, kinds := [], alts := [], laidByText := true, laidKinds := [.handle, .data], laidTests := true, laidLooks := .later }
def PartsPutsUptoCardSaid : Prop := Claim7.holds Tryd.pinned (.plain (OpenSpec.upto partsPutsSpec)) partsPutsUptoCard

/-- THE SECOND FORM's CARD OF 'countwheellaw08.PartsFinds'. -/
def partsFindsUptoCard : Claim7 := { stood := { row := partsFindsUptoRow, standIns := [], harness := (true, "c1f3cd467c0bcce94cd975c5dbfee15a178ff724163d97075e48d7e0110a0311"), looks := true }, kinds := [], alts := [], laidByText := true, laidKinds := [.data], laidTests := true, laidLooks := .later }
def PartsFindsUptoCardSaid : Prop := Claim7.holds Tryd.pinned (.plain (OpenSpec.upto partsFindsSpec)) partsFindsUptoCard
end Rows
end Go.Proofs.YteadednglodgpaaDoor
