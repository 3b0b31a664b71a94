/-
  DERIVED. GIVEN WITH THE SEED: THE CARDS: each row of YtgdnjlpoeijejaaDoorRows.lean that lists a variable, with what it lists TIED to the program's text (the seventh form; the later family's looks); each row that meets fmt, with fmt's text TOLD by the authors' own Lean function (tested against real Go, not proved from fmt's source: count such statements apart). THE CARD IS WHAT COUNTS. Prove the row's statement (the work); the ties are given (YtgdnjlpoeijejaaDoorTie.lean); close each card by the builder's one call (the guide's Derived/Test/ToyasCard.lean, 'card_holds'). Laid BY PROGRAM, IN A SANDBOX (cutbox-door.mjs). By AI agents, Wed Nov 11 2026. No macro, syntax, notation, axiom, sorry.
-/
import Derived.Test.YtgdnjlpoeijejaaDoorRows
import GoSem.ClaimSeven
namespace Go.Proofs.YtgdnjlpoeijejaaDoor
namespace Rows

/-- THE TIED CARD OF 'countwheellaw17.TableNews'. -/
def tableNewsCard : Claim7 := { stood := { row := tableNewsRow, standIns := [], harness := (true, "092b37274f1d4cfad948d24e181328a38dc29fc5f8bb772bbeb6cf2606625cc5"), looks := true }, kinds := [], alts := [], laidByText := true, laidKinds := [.handle, .data], laidTests := true, laidLooks := .later }
def TableNewsCardSaid : Prop := Claim7.holds Tryd.pinned (.plain (OpenSpec.ofChange tableNewsSpec)) tableNewsCard

/-- THE TIED CARD OF 'countwheellaw17.TableFrames'. -/
def tableFramesCard : Claim7 := { stood := { row := tableFramesRow, standIns := [], harness := (true, "092b37274f1d4cfad948d24e181328a38dc29fc5f8bb772bbeb6cf2606625cc5"), looks := true }, kinds := [], alts := [], laidByText := true, laidKinds := [.data], laidTests := true, laidLooks := .later }
def TableFramesCardSaid : Prop := Claim7.holds Tryd.pinned (.plain (OpenSpec.ofChange tableFramesSpec)) tableFramesCard

/-- THE SECOND FORM's CARD OF 'countwheellaw17.TableNews'. -/
def tableNewsUptoCard : Claim7 := { stood := { row := tableNewsUptoRow, standIns := [], harness := (true, "092b37274f1d4cfad948d24e181328a38dc29fc5f8bb772bbeb6cf2606625cc5"), looks := true }, kinds := [], alts := [], laidByText := true, laidKinds := [.handle, .data], laidTests := true, laidLooks := .later }
def TableNewsUptoCardSaid : Prop := Claim7.holds Tryd.pinned (.plain (OpenSpec.upto tableNewsSpec)) tableNewsUptoCard

/-- THE SECOND FORM's CARD OF 'countwheellaw17.TableFrames'. -/
def tableFramesUptoCard : Claim7 := { stood := { row := tableFramesUptoRow, standIns := [], harness := (true, "092b37274f1d4cfad948d24e181328a38dc29fc5f8bb772bbeb6cf2606625cc5"), looks := true }, kinds := [], alts := [], laidByText := true, laidKinds := [.data], laidTests := true, laidLooks := .later }
def TableFramesUptoCardSaid : Prop := Claim7.holds Tryd.pinned (.plain (OpenSpec.upto tableFramesSpec)) tableFramesUptoCard
end Rows
end Go.Proofs.YtgdnjlpoeijejaaDoor
