/-
  DERIVED. GIVEN WITH THE SEED: THE CARDS: each row of YtpjillclladjaaaDoorRows.lean that lists a variable, with what it lists TIED to the program's text (the seventh form; the later family's looks); each row that meets fmt, with fmt's text TOLD by the authors' own Lean function (tested against real Go, not proved from fmt's source: count such statements apart). THE CARD IS WHAT COUNTS. Prove the row's statement (the work); the ties are given (YtpjillclladjaaaDoorTie.lean); close each card by the builder's one call (the guide's Derived/Test/ToyasCard.lean, 'card_holds'). Laid BY PROGRAM, IN A SANDBOX (cutbox-door.mjs). By AI agents, Wed Nov 11 2026. No macro, syntax, notation, axiom, sorry.
-/
import Derived.Test.YtpjillclladjaaaDoorRows
import GoSem.ClaimSeven
namespace Go.Proofs.YtpjillclladjaaaDoor
namespace Rows

/-- THE TIED CARD OF 'countwheellaw32.PlanMakes'. -/
def planMakesCard : Claim7 := { stood := { row := planMakesRow, standIns := [], harness := (true, "5dc9c2502f0522e15aa3d6ca15c6b346b4fe7dbcc0e304a8f06f8e73237ecea5"), looks := true }, kinds := [], alts := [], laidByText := true, laidKinds := [.handle, .data], laidTests := true, laidLooks := .later }
def PlanMakesCardSaid : Prop := Claim7.holds Tryd.pinned (.plain (OpenSpec.ofChange planMakesSpec)) planMakesCard

/-- THE TIED CARD OF 'countwheellaw32.PlanBest'. -/
def planBestCard : Claim7 := { stood := { row := planBestRow, standIns := [], harness := (true, "5dc9c2502f0522e15aa3d6ca15c6b346b4fe7dbcc0e304a8f06f8e73237ecea5"), looks := true }, kinds := [], alts := [], laidByText := true, laidKinds := [.data], laidTests := true, laidLooks := .later }
def PlanBestCardSaid : Prop := Claim7.holds Tryd.pinned (.plain (OpenSpec.ofChange planBestSpec)) planBestCard

/-- THE TIED CARD OF 'countwheellaw32.PlanWords'. -/
def planWordsCard : Claim7 := { stood := { row := planWordsRow, standIns := [], harness := (true, "5dc9c2502f0522e15aa3d6ca15c6b346b4fe7dbcc0e304a8f06f8e73237ecea5"), looks := true }, kinds := [], alts := [], laidByText := true, laidKinds := [.data], laidTests := true, laidLooks := .later }
def PlanWordsCardSaid : Prop := Claim7.holds Tryd.pinned (.plain (OpenSpec.ofChange planWordsSpec)) planWordsCard

/-- THE TIED CARD OF 'countwheellaw33.ShiftBack'. -/
def shiftBackCard : Claim7 := { stood := { row := shiftBackRow, standIns := [], harness := (true, "5dc9c2502f0522e15aa3d6ca15c6b346b4fe7dbcc0e304a8f06f8e73237ecea5"), looks := true }, kinds := [], alts := [], laidByText := true, laidKinds := [.data], laidTests := true, laidLooks := .later }
def ShiftBackCardSaid : Prop := Claim7.holds Tryd.pinned (.plain (OpenSpec.ofChange shiftBackSpec)) shiftBackCard

/-- THE SECOND FORM's CARD OF 'countwheellaw32.PlanMakes'. -/
def planMakesUptoCard : Claim7 := { stood := { row := planMakesUptoRow, standIns := [], harness := (true, "5dc9c2502f0522e15aa3d6ca15c6b346b4fe7dbcc0e304a8f06f8e73237ecea5"), looks := true }, kinds := [], alts := [], laidByText := true, laidKinds := [.handle, .data], laidTests := true, laidLooks := .later }
def PlanMakesUptoCardSaid : Prop := Claim7.holds Tryd.pinned (.plain (OpenSpec.upto planMakesSpec)) planMakesUptoCard

/-- THE SECOND FORM's CARD OF 'countwheellaw32.PlanBest'. -/
def planBestUptoCard : Claim7 := { stood := { row := planBestUptoRow, standIns := [], harness := (true, "5dc9c2502f0522e15aa3d6ca15c6b346b4fe7dbcc0e304a8f06f8e73237ecea5"), looks := true }, kinds := [], alts := [], laidByText := true, laidKinds := [.data], laidTests := true, laidLooks := .later }
def PlanBestUptoCardSaid : Prop := Claim7.holds Tryd.pinned (.plain (OpenSpec.upto planBestSpec)) planBestUptoCard

/-- THE SECOND FORM's CARD OF 'countwheellaw32.PlanWords'. -/
def planWordsUptoCard : Claim7 := { stood := { row := planWordsUptoRow, standIns := [], harness := (true, "5dc9c2502f0522e15aa3d6ca15c6b346b4fe7dbcc0e304a8f06f8e73237ecea5"), looks := true }, kinds := [], alts := [], laidByText := true, laidKinds := [.data], laidTests := true, laidLooks := .later }
def PlanWordsUptoCardSaid : Prop := Claim7.holds Tryd.pinned (.plain (OpenSpec.upto planWordsSpec)) planWordsUptoCard

/-- THE SECOND FORM's CARD OF 'countwheellaw33.ShiftBack'. -/
def shiftBackUptoCard : Claim7 := { stood := { row := shiftBackUptoRow, standIns := [], harness := (true, "5dc9c2502f0522e15aa3d6ca15c6b346b4fe7dbcc0e304a8f06f8e73237ecea5"), looks := true }, kinds := [], alts := [], laidByText := true, laidKinds := [.data], laidTests := true, laidLooks := .later }
def ShiftBackUptoCardSaid : Prop := Claim7.holds Tryd.pinned (.plain (OpenSpec.upto shiftBackSpec)) shiftBackUptoCard
end Rows
end Go.Proofs.YtpjillclladjaaaDoor
