/-
  DERIVED. GIVEN WITH THE SEED: THE CARDS: each row of YtbcjkongcnpdlaaDoorRows.lean that lists a variable, with what it lists TIED to the program's text (the seventh form; the later family's looks); each row that meets fmt, with fmt's text TOLD by the authors' own Lean function (tested against real Go, not proved from fmt's source: count such statements apart). THE CARD IS WHAT COUNTS. Prove the row's statement (the work); the ties are given (YtbcjkongcnpdlaaDoorTie.lean); close each card by the builder's one call (the guide's Derived/Test/ToyasCard.lean, 'card_holds'). Laid BY PROGRAM, IN A SANDBOX (cutbox-door.mjs). By AI agents, Wed Nov 11 2026. No macro, syntax, notation, axiom, sorry.
-/
import Derived.Test.YtbcjkongcnpdlaaDoorRows
import GoSem.ClaimSeven
namespace Go.Proofs.YtbcjkongcnpdlaaDoor
namespace Rows

/-- THE TIED CARD OF 'countwheellaw09.SchedsPuts'. -/
def schedsPutsCard : Claim7 := { stood := { row := schedsPutsRow, standIns := [], harness := (true, "0ddbfdefa2b77c55405cc460554c11fc1c7bbaa96501cd19052d9d5a0b3d44f4"), looks := true }, kinds := [], alts := [], laidByText := true, laidKinds := [.handle, .data], laidTests := true, laidLooks := .later }
def SchedsPutsCardSaid : Prop := Claim7.holds Tryd.pinned (.plain (OpenSpec.ofChange schedsPutsSpec)) schedsPutsCard

/-- THE TIED CARD OF 'countwheellaw09.SchedsReads'. -/
def schedsReadsCard : Claim7 := { stood := { row := schedsReadsRow, standIns := [], harness := (true, "0ddbfdefa2b77c55405cc460554c11fc1c7bbaa96501cd19052d9d5a0b3d44f4"), looks := true }, kinds := [], alts := [], laidByText := true, laidKinds := [.handle, .data], laidTests := true, laidLooks := .later }
def SchedsReadsCardSaid : Prop := Claim7.holds Tryd.pinned (.plain (OpenSpec.ofChange schedsReadsSpec)) schedsReadsCard

/-- THE TIED CARD OF 'countwheellaw09.SchedsFinds'. -/
def schedsFindsCard : Claim7 := { stood := { row := schedsFindsRow, standIns := [], harness := (true, "0ddbfdefa2b77c55405cc460554c11fc1c7bbaa96501cd19052d9d5a0b3d44f4"), looks := true }, kinds := [], alts := [], laidByText := true, laidKinds := [.data], laidTests := true, laidLooks := .later }
def SchedsFindsCardSaid : Prop := Claim7.holds Tryd.pinned (.plain (OpenSpec.ofChange schedsFindsSpec)) schedsFindsCard

/-- THE SECOND FORM's CARD OF 'countwheellaw09.SchedsPuts'. -/
def schedsPutsUptoCard : Claim7 := { stood := { row := schedsPutsUptoRow, standIns := [], harness := (true, "0ddbfdefa2b77c55405cc460554c11fc1c7bbaa96501cd19052d9d5a0b3d44f4"), looks := true }, kinds := [], alts := [], laidByText := true, laidKinds := [.handle, .data], laidTests := true, laidLooks := .later }
def SchedsPutsUptoCardSaid : Prop := Claim7.holds Tryd.pinned (.plain (OpenSpec.upto schedsPutsSpec)) schedsPutsUptoCard

/-- THE SECOND FORM's CARD OF 'countwheellaw09.SchedsReads'. -/
def schedsReadsUptoCard : Claim7 := { stood := { row := schedsReadsUptoRow, standIns := [], harness := (true, "0ddbfdefa2b77c55405cc460554c11fc1c7bbaa96501cd19052d9d5a0b3d44f4"), looks := true }, kinds := [], alts := [], laidByText := true, laidKinds := [.handle, .data], laidTests := true, laidLooks := .later }
def SchedsReadsUptoCardSaid : Prop := Claim7.holds Tryd.pinned (.plain (OpenSpec.upto schedsReadsSpec)) schedsReadsUptoCard

/-- THE SECOND FORM's CARD OF 'countwheellaw09.SchedsFinds'. -/
def schedsFindsUptoCard : Claim7 := { stood := { row := schedsFindsUptoRow, standIns := [], harness := (true, "0ddbfdefa2b77c55405cc460554c11fc1c7bbaa96501cd19052d9d5a0b3d44f4"), looks := true }, kinds := [], alts := [], laidByText := true, laidKinds := [.data], laidTests := true, laidLooks := .later }
def SchedsFindsUptoCardSaid : Prop := Claim7.holds Tryd.pinned (.plain (OpenSpec.upto schedsFindsSpec)) schedsFindsUptoCard
end Rows
end Go.Proofs.YtbcjkongcnpdlaaDoor
