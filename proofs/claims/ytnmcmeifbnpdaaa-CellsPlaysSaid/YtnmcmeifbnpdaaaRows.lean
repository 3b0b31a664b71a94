/-
  No cell of these rows narrows 'for every input' (looked for: loops, veiled, ifaces, maps, wideKeys, modest, calm, conditions, laid).
  DERIVED. THE GIVEN ROWS OF THIS SEAT. 5 by the template 'for every input the law returns true; each argument reads behind the call as it read before'; 0 by the template 'total and deterministic' (their statements: YtnmcmeifbnpdaaaTotals.lean).
  GIVEN WITH THE SEED: the statements are not yours to turn. If you find one false, say at which input.
  Laid BY PROGRAM, IN A SANDBOX (cutbox-rows.mjs): the forced cells as the released guide's own fill.sh prints them over the translation 8cf715f59dace9cf… (all of the seat's roots in one cut). By AI agents, Wed Nov 11 2026. No macro, syntax, notation, axiom, sorry.
-/
import Derived.Test.YtnmcmeifbnpdaaaChecked
import GoSem.Claim
import GoSem.ClaimJoined
import GoSem.ClaimMapViews
import Derived.JoinedTies
import Derived.KernelRfl
namespace Go.Proofs.Ytnmcmeifbnpdaaa
/- THE CELL 'sum', in the pinned program and in every row, IS THE sha256 OF THE DUMP (.gsa) THAT YtnmcmeifbnpdaaaProg.lean LOADS. Nothing in Lean hashes anything: it is a label: what it is worth is what the hold of that sum in a sandbox is worth. -/
noncomputable def Try.pinned : Pinned := { name := "ytnmcmeifbnpdaaa", sum := "8cf715f59dace9cfa6da629de8ab999b72a56e72e5eb8ce58a10a3a319c87874", checked := Try.checked }
namespace Rows
def none {H : Type} : Left H := { results := [], args := [] }

/-- 'countwheellaw19.ModePaths': WHATEVER THE INPUT: true; the input reads as it did. -/
def modePathsSpec : ChangeSpec := { name := "modePaths", fn := fun _ => fun
  | [d1, d2] => { results := [.lit (.bool true)], args := [d1, d2] }
  | _ => none }
def modePathsRow : OpenClaim := { program := "ytnmcmeifbnpdaaa", sum := "8cf715f59dace9cfa6da629de8ab999b72a56e72e5eb8ce58a10a3a319c87874", func := "countwheel/countwheellaw19.ModePaths", spec := "modePaths", apart := false }
def ModePathsSaid : Prop := modePathsRow.holds Try.pinned (OpenSpec.ofChange modePathsSpec)

/-- ITS FALSE NEIGHBOUR: 'it returns false'. Refute it at one input. -/
def modePathsWrong : ChangeSpec := { name := "modePaths", fn := fun _ => fun
  | [d1, d2] => { results := [.lit (.bool false)], args := [d1, d2] }
  | _ => none }
def ModePathsWrongFalsely : Prop := modePathsRow.holds Try.pinned (OpenSpec.ofChange modePathsWrong)

/-- 'countwheellaw19.ModeStarts': WHATEVER THE INPUT: true; the input reads as it did. -/
def modeStartsSpec : ChangeSpec := { name := "modeStarts", fn := fun _ => fun
  | [d1, d2] => { results := [.lit (.bool true)], args := [d1, d2] }
  | _ => none }
def modeStartsRow : OpenClaim := { program := "ytnmcmeifbnpdaaa", sum := "8cf715f59dace9cfa6da629de8ab999b72a56e72e5eb8ce58a10a3a319c87874", func := "countwheel/countwheellaw19.ModeStarts", spec := "modeStarts", apart := false }
def ModeStartsSaid : Prop := modeStartsRow.holds Try.pinned (OpenSpec.ofChange modeStartsSpec)

/-- ITS FALSE NEIGHBOUR: 'it returns false'. Refute it at one input. -/
def modeStartsWrong : ChangeSpec := { name := "modeStarts", fn := fun _ => fun
  | [d1, d2] => { results := [.lit (.bool false)], args := [d1, d2] }
  | _ => none }
def ModeStartsWrongFalsely : Prop := modeStartsRow.holds Try.pinned (OpenSpec.ofChange modeStartsWrong)

/-- 'countwheellaw20.CellsPlays': WHATEVER THE INPUT: true; the input reads as it did. -/
def cellsPlaysSpec : ChangeSpec := { name := "cellsPlays", fn := fun _ => fun
  | [d1, d2, d3] => { results := [.lit (.bool true)], args := [d1, d2, d3] }
  | _ => none }
def cellsPlaysRow : OpenClaim := { program := "ytnmcmeifbnpdaaa", sum := "8cf715f59dace9cfa6da629de8ab999b72a56e72e5eb8ce58a10a3a319c87874", func := "countwheel/countwheellaw20.CellsPlays", spec := "cellsPlays", unfollowed := true, recurses := true, apart := false }
def CellsPlaysSaid : Prop := cellsPlaysRow.holds Try.pinned (OpenSpec.ofChange cellsPlaysSpec)

/-- ITS FALSE NEIGHBOUR: 'it returns false'. Refute it at one input. -/
def cellsPlaysWrong : ChangeSpec := { name := "cellsPlays", fn := fun _ => fun
  | [d1, d2, d3] => { results := [.lit (.bool false)], args := [d1, d2, d3] }
  | _ => none }
def CellsPlaysWrongFalsely : Prop := cellsPlaysRow.holds Try.pinned (OpenSpec.ofChange cellsPlaysWrong)

/-- 'countwheellaw20.CellsWarm': WHATEVER THE INPUT: true; the input reads as it did. -/
def cellsWarmSpec : ChangeSpec := { name := "cellsWarm", fn := fun _ => fun
  | [d1, d2] => { results := [.lit (.bool true)], args := [d1, d2] }
  | _ => none }
def cellsWarmRow : OpenClaim := { program := "ytnmcmeifbnpdaaa", sum := "8cf715f59dace9cfa6da629de8ab999b72a56e72e5eb8ce58a10a3a319c87874", func := "countwheel/countwheellaw20.CellsWarm", spec := "cellsWarm", unfollowed := true, recurses := true, apart := false }
def CellsWarmSaid : Prop := cellsWarmRow.holds Try.pinned (OpenSpec.ofChange cellsWarmSpec)

/-- ITS FALSE NEIGHBOUR: 'it returns false'. Refute it at one input. -/
def cellsWarmWrong : ChangeSpec := { name := "cellsWarm", fn := fun _ => fun
  | [d1, d2] => { results := [.lit (.bool false)], args := [d1, d2] }
  | _ => none }
def CellsWarmWrongFalsely : Prop := cellsWarmRow.holds Try.pinned (OpenSpec.ofChange cellsWarmWrong)

/-- 'countwheellaw20.CellsAgain': WHATEVER THE INPUT: true; the input reads as it did. -/
def cellsAgainSpec : ChangeSpec := { name := "cellsAgain", fn := fun _ => fun
  | [d1, d2, d3] => { results := [.lit (.bool true)], args := [d1, d2, d3] }
  | _ => none }
def cellsAgainRow : OpenClaim := { program := "ytnmcmeifbnpdaaa", sum := "8cf715f59dace9cfa6da629de8ab999b72a56e72e5eb8ce58a10a3a319c87874", func := "countwheel/countwheellaw20.CellsAgain", spec := "cellsAgain", unfollowed := true, recurses := true, apart := false }
def CellsAgainSaid : Prop := cellsAgainRow.holds Try.pinned (OpenSpec.ofChange cellsAgainSpec)

/-- ITS FALSE NEIGHBOUR: 'it returns false'. Refute it at one input. -/
def cellsAgainWrong : ChangeSpec := { name := "cellsAgain", fn := fun _ => fun
  | [d1, d2, d3] => { results := [.lit (.bool false)], args := [d1, d2, d3] }
  | _ => none }
def CellsAgainWrongFalsely : Prop := cellsAgainRow.holds Try.pinned (OpenSpec.ofChange cellsAgainWrong)

/- THE SECOND FORM. 'bulk': how many values and letters a reading holds, each counted each time it is reached (what is shared counts as often as it is met; a slice's spare places count too). A statement '..UptoSaid' is the law's where the arguments, and the package variables that the reading takes, are together of bulk at most 1048576: NARROWER than '..Said'. Prove '..Said' where nothing that the law and all that it calls make is longer than what came in: it says more and counts as full. Else prove '..UptoSaid'. A law counts once. -/
mutual
def uptoBulk {H : Type} : DataW H → Nat
  | .lit (.string bytes) => bytes.length + 1
  | .lit _ => 1
  | .nil => 1
  | .ptr d => uptoBulk d + 1
  | .slice elems spare => uptoBulkAll elems + uptoBulkAll spare + 1
  | .agg parts => uptoBulkAll parts + 1
  | .iface _ d => uptoBulk d + 1
  | .map entries => uptoBulkEntries entries + 1
  | .held _ => 1
def uptoBulkAll {H : Type} : List (DataW H) → Nat
  | [] => 0
  | d :: r => uptoBulk d + uptoBulkAll r
def uptoBulkEntries {H : Type} : List (Lit × DataW H) → Nat
  | [] => 0
  | x :: r => uptoBulkEntry x + uptoBulkEntries r
def uptoBulkEntry {H : Type} : Lit × DataW H → Nat
  | (.string bytes, d) => bytes.length + uptoBulk d + 1
  | (_, d) => uptoBulk d + 1
 end
def uptoSmall : (H : Type) → List (DataW H) → Bool := fun _ ds => decide (uptoBulkAll ds ≤ 1048576)
def OpenSpec.upto (s : _root_.Go.ChangeSpec) : _root_.Go.OpenSpec := { _root_.Go.OpenSpec.ofChange s with cond := some uptoSmall }

/-- 'countwheellaw19.ModePaths', WHERE WHAT IT READS IS OF BULK AT MOST 1048576: true; the input reads as it did. -/
def modePathsUptoRow : OpenClaim := { program := "ytnmcmeifbnpdaaa", sum := "8cf715f59dace9cfa6da629de8ab999b72a56e72e5eb8ce58a10a3a319c87874", func := "countwheel/countwheellaw19.ModePaths", spec := "modePaths", apart := false, narrowed := true }
def ModePathsUptoSaid : Prop := modePathsUptoRow.holds Try.pinned (OpenSpec.upto modePathsSpec)

/-- 'countwheellaw19.ModeStarts', WHERE WHAT IT READS IS OF BULK AT MOST 1048576: true; the input reads as it did. -/
def modeStartsUptoRow : OpenClaim := { program := "ytnmcmeifbnpdaaa", sum := "8cf715f59dace9cfa6da629de8ab999b72a56e72e5eb8ce58a10a3a319c87874", func := "countwheel/countwheellaw19.ModeStarts", spec := "modeStarts", apart := false, narrowed := true }
def ModeStartsUptoSaid : Prop := modeStartsUptoRow.holds Try.pinned (OpenSpec.upto modeStartsSpec)

/-- 'countwheellaw20.CellsPlays', WHERE WHAT IT READS IS OF BULK AT MOST 1048576: true; the input reads as it did. -/
def cellsPlaysUptoRow : OpenClaim := { program := "ytnmcmeifbnpdaaa", sum := "8cf715f59dace9cfa6da629de8ab999b72a56e72e5eb8ce58a10a3a319c87874", func := "countwheel/countwheellaw20.CellsPlays", spec := "cellsPlays", unfollowed := true, recurses := true, apart := false, narrowed := true }
def CellsPlaysUptoSaid : Prop := cellsPlaysUptoRow.holds Try.pinned (OpenSpec.upto cellsPlaysSpec)

/-- 'countwheellaw20.CellsWarm', WHERE WHAT IT READS IS OF BULK AT MOST 1048576: true; the input reads as it did. -/
def cellsWarmUptoRow : OpenClaim := { program := "ytnmcmeifbnpdaaa", sum := "8cf715f59dace9cfa6da629de8ab999b72a56e72e5eb8ce58a10a3a319c87874", func := "countwheel/countwheellaw20.CellsWarm", spec := "cellsWarm", unfollowed := true, recurses := true, apart := false, narrowed := true }
def CellsWarmUptoSaid : Prop := cellsWarmUptoRow.holds Try.pinned (OpenSpec.upto cellsWarmSpec)

/-- 'countwheellaw20.CellsAgain', WHERE WHAT IT READS IS OF BULK AT MOST 1048576: true; the input reads as it did. -/
def cellsAgainUptoRow : OpenClaim := { program := "ytnmcmeifbnpdaaa", sum := "8cf715f59dace9cfa6da629de8ab999b72a56e72e5eb8ce58a10a3a319c87874", func := "countwheel/countwheellaw20.CellsAgain", spec := "cellsAgain", unfollowed := true, recurses := true, apart := false, narrowed := true }
def CellsAgainUptoSaid : Prop := cellsAgainUptoRow.holds Try.pinned (OpenSpec.upto cellsAgainSpec)

end Rows
end Go.Proofs.Ytnmcmeifbnpdaaa
