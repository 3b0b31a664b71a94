/-
  DERIVED. GIVEN WITH THE SEED: THE CARDS: each row of YtofcjkfaccdnjaaDoorRows.lean that lists a variable, with what it lists TIED to the program's text (the seventh form; the later family's looks); each row that meets fmt, with fmt's text TOLD by the authors' own Lean function (tested against real Go, not proved from fmt's source: count such statements apart). THE CARD IS WHAT COUNTS. Prove the row's statement (the work); the ties are given (YtofcjkfaccdnjaaDoorTie.lean); close each card by the builder's one call (the guide's Derived/Test/ToyasCard.lean, 'card_holds'). Laid BY PROGRAM, IN A SANDBOX (cutbox-door.mjs). By AI agents, Wed Nov 11 2026. No macro, syntax, notation, axiom, sorry.
-/
import Derived.Test.YtofcjkfaccdnjaaDoorRows
import GoSem.ClaimSeven
namespace Go.Proofs.YtofcjkfaccdnjaaDoor
namespace Rows

/-- THE TIED CARD OF 'countwheellaw18.FramePlays'. -/
def framePlaysCard : Claim7 := { stood := { row := framePlaysRow, standIns := [], harness := (true, "2dbc0eeec5c49b137c6a7f275ddd75feb282ed594071e01a5690939ec43103e2"), looks := false }, kinds := [], alts := [], laidByText := true, laidKinds := [.data], laidTests := true, laidLooks := .later }
def FramePlaysCardSaid : Prop := Claim7.holds Tryd.pinned (.plain (OpenSpec.ofChange framePlaysSpec)) framePlaysCard

/-- THE TIED CARD OF 'countwheellaw18.FrameWords'. -/
def frameWordsCard : Claim7 := { stood := { row := frameWordsRow, standIns := [], harness := (true, "2dbc0eeec5c49b137c6a7f275ddd75feb282ed594071e01a5690939ec43103e2"), looks := false }, kinds := [], alts := [], laidByText := true, laidKinds := [.data], laidTests := true, laidLooks := .later }
def FrameWordsCardSaid : Prop := Claim7.holds Tryd.pinned (.plain (OpenSpec.ofChange frameWordsSpec)) frameWordsCard

/-- THE TIED CARD OF 'countwheellaw18.FrameHalts'. -/
def frameHaltsCard : Claim7 := { stood := { row := frameHaltsRow, standIns := [], harness := (true, "2dbc0eeec5c49b137c6a7f275ddd75feb282ed594071e01a5690939ec43103e2"), looks := false }, kinds := [], alts := [], laidByText := true, laidKinds := [.data], laidTests := true, laidLooks := .later }
def FrameHaltsCardSaid : Prop := Claim7.holds Tryd.pinned (.plain (OpenSpec.ofChange frameHaltsSpec)) frameHaltsCard

/-- THE SECOND FORM's CARD OF 'countwheellaw18.FramePlays'. -/
def framePlaysUptoCard : Claim7 := { stood := { row := framePlaysUptoRow, standIns := [], harness := (true, "2dbc0eeec5c49b137c6a7f275ddd75feb282ed594071e01a5690939ec43103e2"), looks := false }, kinds := [], alts := [], laidByText := true, laidKinds := [.data], laidTests := true, laidLooks := .later }
def FramePlaysUptoCardSaid : Prop := Claim7.holds Tryd.pinned (.plain (OpenSpec.upto framePlaysSpec)) framePlaysUptoCard

/-- THE SECOND FORM's CARD OF 'countwheellaw18.FrameWords'. -/
def frameWordsUptoCard : Claim7 := { stood := { row := frameWordsUptoRow, standIns := [], harness := (true, "2dbc0eeec5c49b137c6a7f275ddd75feb282ed594071e01a5690939ec43103e2"), looks := false }, kinds := [], alts := [], laidByText := true, laidKinds := [.data], laidTests := true, laidLooks := .later }
def FrameWordsUptoCardSaid : Prop := Claim7.holds Tryd.pinned (.plain (OpenSpec.upto frameWordsSpec)) frameWordsUptoCard

/-- THE SECOND FORM's CARD OF 'countwheellaw18.FrameHalts'. -/
def frameHaltsUptoCard : Claim7 := { stood := { row := frameHaltsUptoRow, standIns := [], harness := (true, "2dbc0eeec5c49b137c6a7f275ddd75feb282ed594071e01a5690939ec43103e2"), looks := false }, kinds := [], alts := [], laidByText := true, laidKinds := [.data], laidTests := true, laidLooks := .later }
def FrameHaltsUptoCardSaid : Prop := Claim7.holds Tryd.pinned (.plain (OpenSpec.upto frameHaltsSpec)) frameHaltsUptoCard
end Rows
end Go.Proofs.YtofcjkfaccdnjaaDoor
