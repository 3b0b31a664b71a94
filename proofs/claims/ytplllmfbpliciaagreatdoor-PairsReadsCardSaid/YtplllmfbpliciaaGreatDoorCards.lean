/-
  DERIVED. GIVEN WITH THE SEED: THE CARDS: each row of YtplllmfbpliciaaGreatDoorRows.lean that lists a variable, with what it lists TIED to the program's text (the seventh form; the later family's looks); each row that meets fmt, with fmt's text TOLD by the authors' own Lean function (tested against real Go, not proved from fmt's source: count such statements apart). THE CARD IS WHAT COUNTS. Prove the row's statement (the work); the ties are given (YtplllmfbpliciaaGreatDoorTie.lean); close each card by the builder's one call (the guide's Derived/Test/ToyasCard.lean, 'card_holds'). Laid BY PROGRAM, IN A SANDBOX (cutbox-door.mjs). By AI agents, Wed Nov 11 2026. No macro, syntax, notation, axiom, sorry.
-/
import Derived.Test.YtplllmfbpliciaaGreatDoorRows
import GoSem.ClaimSeven
namespace Go.Proofs.YtplllmfbpliciaaGreatDoor
namespace Rows

/-- THE TIED CARD OF 'countwheellaw10.PairsPuts'. -/
def pairsPutsCard : Claim7 := { stood := { row := pairsPutsRow, standIns := [], harness := (true, "c32a301c7d9cee6f329deb6229b9f9b692958b5ee7bcd0c46a9aad37863ffcb3"), looks := true }, kinds := [], alts := [], laidByText := true, laidKinds := [.handle, .data], laidTests := true, laidLooks := .later }
def PairsPutsCardSaid : Prop := Claim7.holds Tryz.pinned (.plain (OpenSpec.ofChange pairsPutsSpec)) pairsPutsCard

/-- THE TIED CARD OF 'countwheellaw10.PairsReads'. -/
def pairsReadsCard : Claim7 := { stood := { row := pairsReadsRow, standIns := [], harness := (true, "c32a301c7d9cee6f329deb6229b9f9b692958b5ee7bcd0c46a9aad37863ffcb3"), looks := true }, kinds := [], alts := [], laidByText := true, laidKinds := [.handle, .data], laidTests := true, laidLooks := .later }
def PairsReadsCardSaid : Prop := Claim7.holds Tryz.pinned (.plain (OpenSpec.ofChange pairsReadsSpec)) pairsReadsCard

/-- THE SECOND FORM's CARD OF 'countwheellaw10.PairsPuts'. -/
def pairsPutsUptoCard : Claim7 := { stood := { row := pairsPutsUptoRow, standIns := [], harness := (true, "c32a301c7d9cee6f329deb6229b9f9b692958b5ee7bcd0c46a9aad37863ffcb3"), looks := true }, kinds := [], alts := [], laidByText := true, laidKinds := [.handle, .data], laidTests := true, laidLooks := .later }
def PairsPutsUptoCardSaid : Prop := Claim7.holds Tryz.pinned (.plain (OpenSpec.upto pairsPutsSpec)) pairsPutsUptoCard

/-- THE SECOND FORM's CARD OF 'countwheellaw10.PairsReads'. -/
def pairsReadsUptoCard : Claim7 := { stood := { row := pairsReadsUptoRow, standIns := [], harness := (true, "c32a301c7d9cee6f329deb6229b9f9b692958b5ee7bcd0c46a9aad37863ffcb3"), looks := true }, kinds := [], alts := [], laidByText := true, laidKinds := [.handle, .data], laidTests := true, laidLooks := .later }
def PairsReadsUptoCardSaid : Prop := Claim7.holds Tryz.pinned (.plain (OpenSpec.upto pairsReadsSpec)) pairsReadsUptoCard
end Rows
end Go.Proofs.YtplllmfbpliciaaGreatDoor
