/-
  No cell of these rows narrows 'for every input' (looked for: loops, veiled, ifaces, maps, wideKeys, modest, calm, conditions, laid).
  DERIVED. THE GIVEN ROWS OF THIS SEAT. 3 by the template 'for every input the law returns true; each argument reads behind the call as it read before'; 0 by the template 'total and deterministic' (their statements: YtbfhcphjeiojmaaTotals.lean).
  GIVEN WITH THE SEED: the statements are not yours to turn. If you find one false, say at which input.
  Laid BY PROGRAM, IN A SANDBOX (cutbox-rows.mjs): the forced cells as the released guide's own fill.sh prints them over the translation 2733b0da05575a5a… (all of the seat's roots in one cut). By AI agents, Wed Nov 11 2026. No macro, syntax, notation, axiom, sorry.
-/
import Derived.Test.YtbfhcphjeiojmaaChecked
import GoSem.Claim
import GoSem.ClaimJoined
import GoSem.ClaimMapViews
import Derived.JoinedTies
import Derived.KernelRfl
namespace Go.Proofs.Ytbfhcphjeiojmaa
/- THE CELL 'sum', in the pinned program and in every row, IS THE sha256 OF THE DUMP (.gsa) THAT YtbfhcphjeiojmaaProg.lean LOADS. Nothing in Lean hashes anything: it is a label: what it is worth is what the hold of that sum in a sandbox is worth. -/
noncomputable def Try.pinned : Pinned := { name := "ytbfhcphjeiojmaa", sum := "2733b0da05575a5a2a2986ecf26baa09768251c9019659b8f34ccda0b96d3cfd", checked := Try.checked }
namespace Rows
def none {H : Type} : Left H := { results := [], args := [] }

/-- 'countwheellaw24.LatchCodes': WHATEVER THE INPUT: true; the input reads as it did. -/
def latchCodesSpec : ChangeSpec := { name := "latchCodes", fn := fun _ => fun
  | [d1, d2, d3, d4] => { results := [.lit (.bool true)], args := [d1, d2, d3, d4] }
  | _ => none }
def latchCodesRow : OpenClaim := { program := "ytbfhcphjeiojmaa", sum := "2733b0da05575a5a2a2986ecf26baa09768251c9019659b8f34ccda0b96d3cfd", func := "countwheel/countwheellaw24.LatchCodes", spec := "latchCodes", unfollowed := true, recurses := true, plainKeys := false, apart := false }
def LatchCodesSaid : Prop := latchCodesRow.holds Try.pinned (OpenSpec.ofChange latchCodesSpec)

/-- ITS FALSE NEIGHBOUR: 'it returns false'. Refute it at one input. -/
def latchCodesWrong : ChangeSpec := { name := "latchCodes", fn := fun _ => fun
  | [d1, d2, d3, d4] => { results := [.lit (.bool false)], args := [d1, d2, d3, d4] }
  | _ => none }
def LatchCodesWrongFalsely : Prop := latchCodesRow.holds Try.pinned (OpenSpec.ofChange latchCodesWrong)

/-- 'countwheellaw24.LatchPlays': WHATEVER THE INPUT: true; the input reads as it did. -/
def latchPlaysSpec : ChangeSpec := { name := "latchPlays", fn := fun _ => fun
  | [d1, d2] => { results := [.lit (.bool true)], args := [d1, d2] }
  | _ => none }
def latchPlaysRow : OpenClaim := { program := "ytbfhcphjeiojmaa", sum := "2733b0da05575a5a2a2986ecf26baa09768251c9019659b8f34ccda0b96d3cfd", func := "countwheel/countwheellaw24.LatchPlays", spec := "latchPlays", unfollowed := true, recurses := true, plainKeys := false, apart := false }
def LatchPlaysSaid : Prop := latchPlaysRow.holds Try.pinned (OpenSpec.ofChange latchPlaysSpec)

/-- ITS FALSE NEIGHBOUR: 'it returns false'. Refute it at one input. -/
def latchPlaysWrong : ChangeSpec := { name := "latchPlays", fn := fun _ => fun
  | [d1, d2] => { results := [.lit (.bool false)], args := [d1, d2] }
  | _ => none }
def LatchPlaysWrongFalsely : Prop := latchPlaysRow.holds Try.pinned (OpenSpec.ofChange latchPlaysWrong)

/-- 'countwheellaw24.LatchLast': WHATEVER THE INPUT: true; the input reads as it did. -/
def latchLastSpec : ChangeSpec := { name := "latchLast", fn := fun _ => fun
  | [d1, d2, d3] => { results := [.lit (.bool true)], args := [d1, d2, d3] }
  | _ => none }
def latchLastRow : OpenClaim := { program := "ytbfhcphjeiojmaa", sum := "2733b0da05575a5a2a2986ecf26baa09768251c9019659b8f34ccda0b96d3cfd", func := "countwheel/countwheellaw24.LatchLast", spec := "latchLast", unfollowed := true, recurses := true, plainKeys := false, apart := false }
def LatchLastSaid : Prop := latchLastRow.holds Try.pinned (OpenSpec.ofChange latchLastSpec)

/-- ITS FALSE NEIGHBOUR: 'it returns false'. Refute it at one input. -/
def latchLastWrong : ChangeSpec := { name := "latchLast", fn := fun _ => fun
  | [d1, d2, d3] => { results := [.lit (.bool false)], args := [d1, d2, d3] }
  | _ => none }
def LatchLastWrongFalsely : Prop := latchLastRow.holds Try.pinned (OpenSpec.ofChange latchLastWrong)

/- THE SECOND FORM. 'bulk': how many values and letters a reading holds, each counted each time it is reached (what is shared counts as often as it is met; a slice's spare places count too). A statement '..UptoSaid' is the law's where the arguments, and the package variables that the reading takes, are together of bulk at most 1048576: NARROWER than '..Said'. Prove '..Said' where nothing that the law and all that it calls make is longer than what came in: it says more and counts as full. Else prove '..UptoSaid'. A law counts once. -/
mutual
def uptoBulk {H : Type} : DataW H → Nat
  | .lit (.string bytes) => bytes.length + 1
  | .lit _ => 1
  | .nil => 1
  | .ptr d => uptoBulk d + 1
  | .slice elems spare => uptoBulkAll elems + uptoBulkAll spare + 1
  | .agg parts => uptoBulkAll parts + 1
  | .iface _ d => uptoBulk d + 1
  | .map entries => uptoBulkEntries entries + 1
  | .held _ => 1
def uptoBulkAll {H : Type} : List (DataW H) → Nat
  | [] => 0
  | d :: r => uptoBulk d + uptoBulkAll r
def uptoBulkEntries {H : Type} : List (Lit × DataW H) → Nat
  | [] => 0
  | x :: r => uptoBulkEntry x + uptoBulkEntries r
def uptoBulkEntry {H : Type} : Lit × DataW H → Nat
  | (.string bytes, d) => bytes.length + uptoBulk d + 1
  | (_, d) => uptoBulk d + 1
 end
def uptoSmall : (H : Type) → List (DataW H) → Bool := fun _ ds => decide (uptoBulkAll ds ≤ 1048576)
def OpenSpec.upto (s : _root_.Go.ChangeSpec) : _root_.Go.OpenSpec := { _root_.Go.OpenSpec.ofChange s with cond := some uptoSmall }

/-- 'countwheellaw24.LatchCodes', WHERE WHAT IT READS IS OF BULK AT MOST 1048576: true; the input reads as it did. -/
def latchCodesUptoRow : OpenClaim := { program := "ytbfhcphjeiojmaa", sum := "2733b0da05575a5a2a2986ecf26baa09768251c9019659b8f34ccda0b96d3cfd", func := "countwheel/countwheellaw24.LatchCodes", spec := "latchCodes", unfollowed := true, recurses := true, plainKeys := false, apart := false, narrowed := true }
def LatchCodesUptoSaid : Prop := latchCodesUptoRow.holds Try.pinned (OpenSpec.upto latchCodesSpec)

/-- 'countwheellaw24.LatchPlays', WHERE WHAT IT READS IS OF BULK AT MOST 1048576: true; the input reads as it did. -/
def latchPlaysUptoRow : OpenClaim := { program := "ytbfhcphjeiojmaa", sum := "2733b0da05575a5a2a2986ecf26baa09768251c9019659b8f34ccda0b96d3cfd", func := "countwheel/countwheellaw24.LatchPlays", spec := "latchPlays", unfollowed := true, recurses := true, plainKeys := false, apart := false, narrowed := true }
def LatchPlaysUptoSaid : Prop := latchPlaysUptoRow.holds Try.pinned (OpenSpec.upto latchPlaysSpec)

/-- 'countwheellaw24.LatchLast', WHERE WHAT IT READS IS OF BULK AT MOST 1048576: true; the input reads as it did. -/
def latchLastUptoRow : OpenClaim := { program := "ytbfhcphjeiojmaa", sum := "2733b0da05575a5a2a2986ecf26baa09768251c9019659b8f34ccda0b96d3cfd", func := "countwheel/countwheellaw24.LatchLast", spec := "latchLast", unfollowed := true, recurses := true, plainKeys := false, apart := false, narrowed := true }
def LatchLastUptoSaid : Prop := latchLastUptoRow.holds Try.pinned (OpenSpec.upto latchLastSpec)

end Rows
end Go.Proofs.Ytbfhcphjeiojmaa
