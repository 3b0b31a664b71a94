/-
  DERIVED. GIVEN WITH THE SEED: THE CARDS: each row of YtilkicbokfgjlaaDoorRows.lean that lists a variable, with what it lists TIED to the program's text (the seventh form; the later family's looks); each row that meets fmt, with fmt's text TOLD by the authors' own Lean function (tested against real Go, not proved from fmt's source: count such statements apart). THE CARD IS WHAT COUNTS. Prove the row's statement (the work); the ties are given (YtilkicbokfgjlaaDoorTie.lean); close each card by the builder's one call (the guide's Derived/Test/ToyasCard.lean, 'card_holds'). Laid BY PROGRAM, IN A SANDBOX (cutbox-door.mjs). By AI agents, Wed Nov 11 2026. No macro, syntax, notation, axiom, sorry.
-/
import Derived.Test.YtilkicbokfgjlaaDoorRows
import GoSem.ClaimSeven
namespace Go.Proofs.YtilkicbokfgjlaaDoor
namespace Rows

/-- THE TIED CARD OF 'countwheellaw27.StripBytes'. -/
def stripBytesCard : Claim7 := { stood := { row := stripBytesRow, standIns := [], harness := (true, "add38396f0fbceb2066805fa7680ca6c824096ee3d22c93608d87e57ce0a1d0f"), looks := true }, kinds := [], alts := [], laidByText := true, laidKinds := [.handle, .data], laidTests := true, laidLooks := .later }
def StripBytesCardSaid : Prop := Claim7.holds Tryd.pinned (.plain (OpenSpec.ofChange stripBytesSpec)) stripBytesCard

/-- THE TIED CARD OF 'countwheellaw27.StripGets'. -/
def stripGetsCard : Claim7 := { stood := { row := stripGetsRow, standIns := [], harness := (true, "add38396f0fbceb2066805fa7680ca6c824096ee3d22c93608d87e57ce0a1d0f"), looks := true }, kinds := [], alts := [], laidByText := true, laidKinds := [.handle, .data], laidTests := true, laidLooks := .later }
def StripGetsCardSaid : Prop := Claim7.holds Tryd.pinned (.plain (OpenSpec.ofChange stripGetsSpec)) stripGetsCard

/-- THE SECOND FORM's CARD OF 'countwheellaw27.StripBytes'. -/
def stripBytesUptoCard : Claim7 := { stood := { row := stripBytesUptoRow, standIns := [], harness := (true, "add38396f0fbceb2066805fa7680ca6c824096ee3d22c93608d87e57ce0a1d0f"), looks := true }, kinds := [], alts := [], laidByText := true, laidKinds := [.handle, .data], laidTests := true, laidLooks := .later }
def StripBytesUptoCardSaid : Prop := Claim7.holds Tryd.pinned (.plain (OpenSpec.upto stripBytesSpec)) stripBytesUptoCard

/-- THE SECOND FORM's CARD OF 'countwheellaw27.StripGets'. -/
def stripGetsUptoCard : Claim7 := { stood := { row := stripGetsUptoRow, standIns := [], harness := (true, "add38396f0fbceb2066805fa7680ca6c824096ee3d22c93608d87e57ce0a1d0f"), looks := true }, kinds := [], alts := [], laidByText := true, laidKinds := [.handle, .data], laidTests := true, laidLooks := .later }
def StripGetsUptoCardSaid : Prop := Claim7.holds Tryd.pinned (.plain (OpenSpec.upto stripGetsSpec)) stripGetsUptoCard
end Rows
end Go.Proofs.YtilkicbokfgjlaaDoor
