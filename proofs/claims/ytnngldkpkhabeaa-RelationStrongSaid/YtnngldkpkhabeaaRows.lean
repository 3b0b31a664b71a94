/-
  No cell of these rows narrows 'for every input' (looked for: loops, veiled, ifaces, maps, wideKeys, modest, calm, conditions, laid).
  DERIVED. THE GIVEN ROWS OF THIS SEAT. 3 by the template 'for every input the law returns true; each argument reads behind the call as it read before'; 0 by the template 'total and deterministic' (their statements: YtnngldkpkhabeaaTotals.lean).
  GIVEN WITH THE SEED: the statements are not yours to turn. If you find one false, say at which input.
  Laid BY PROGRAM, IN A SANDBOX (cutbox-rows.mjs): the forced cells as the released guide's own fill.sh prints them over the translation 3c191b7af1cb07c4… (all of the seat's roots in one cut). By AI agents, Wed Nov 11 2026. No macro, syntax, notation, axiom, sorry.
-/
import Derived.Test.YtnngldkpkhabeaaChecked
import GoSem.Claim
import GoSem.ClaimJoined
import GoSem.ClaimMapViews
import Derived.JoinedTies
import Derived.KernelRfl
namespace Go.Proofs.Ytnngldkpkhabeaa
/- THE CELL 'sum', in the pinned program and in every row, IS THE sha256 OF THE DUMP (.gsa) THAT YtnngldkpkhabeaaProg.lean LOADS. Nothing in Lean hashes anything: it is a label: what it is worth is what the hold of that sum in a sandbox is worth. -/
noncomputable def Try.pinned : Pinned := { name := "ytnngldkpkhabeaa", sum := "3c191b7af1cb07c438a36c33d0580d2610bf32c0b5c69d39cc5ea2a6cd9677b6", checked := Try.checked }
namespace Rows
def none {H : Type} : Left H := { results := [], args := [] }

/-- 'countwheellaw10.PairsReach': WHATEVER THE INPUT: true; the input reads as it did. -/
def pairsReachSpec : ChangeSpec := { name := "pairsReach", fn := fun _ => fun
  | [d1, d2, d3] => { results := [.lit (.bool true)], args := [d1, d2, d3] }
  | _ => none }
def pairsReachRow : OpenClaim := { program := "ytnngldkpkhabeaa", sum := "3c191b7af1cb07c438a36c33d0580d2610bf32c0b5c69d39cc5ea2a6cd9677b6", func := "countwheel/countwheellaw10.PairsReach", spec := "pairsReach", unfollowed := true, recurses := true, plainKeys := false, apart := false }
def PairsReachSaid : Prop := pairsReachRow.holds Try.pinned (OpenSpec.ofChange pairsReachSpec)

/-- ITS FALSE NEIGHBOUR: 'it returns false'. Refute it at one input. -/
def pairsReachWrong : ChangeSpec := { name := "pairsReach", fn := fun _ => fun
  | [d1, d2, d3] => { results := [.lit (.bool false)], args := [d1, d2, d3] }
  | _ => none }
def PairsReachWrongFalsely : Prop := pairsReachRow.holds Try.pinned (OpenSpec.ofChange pairsReachWrong)

/-- 'countwheellaw15.RelationReaches': WHATEVER THE INPUT: true; the input reads as it did. -/
def relationReachesSpec : ChangeSpec := { name := "relationReaches", fn := fun _ => fun
  | [d1, d2, d3, d4] => { results := [.lit (.bool true)], args := [d1, d2, d3, d4] }
  | _ => none }
def relationReachesRow : OpenClaim := { program := "ytnngldkpkhabeaa", sum := "3c191b7af1cb07c438a36c33d0580d2610bf32c0b5c69d39cc5ea2a6cd9677b6", func := "countwheel/countwheellaw15.RelationReaches", spec := "relationReaches", inPlace := ["maps.clone"], unfollowed := true, recurses := true, plainKeys := false, apart := false }
def RelationReachesSaid : Prop := relationReachesRow.holds Try.pinned (OpenSpec.ofChange relationReachesSpec)

/-- ITS FALSE NEIGHBOUR: 'it returns false'. Refute it at one input. -/
def relationReachesWrong : ChangeSpec := { name := "relationReaches", fn := fun _ => fun
  | [d1, d2, d3, d4] => { results := [.lit (.bool false)], args := [d1, d2, d3, d4] }
  | _ => none }
def RelationReachesWrongFalsely : Prop := relationReachesRow.holds Try.pinned (OpenSpec.ofChange relationReachesWrong)

/-- 'countwheellaw15.RelationStrong': WHATEVER THE INPUT: true; the input reads as it did. -/
def relationStrongSpec : ChangeSpec := { name := "relationStrong", fn := fun _ => fun
  | [d1, d2] => { results := [.lit (.bool true)], args := [d1, d2] }
  | _ => none }
def relationStrongRow : OpenClaim := { program := "ytnngldkpkhabeaa", sum := "3c191b7af1cb07c438a36c33d0580d2610bf32c0b5c69d39cc5ea2a6cd9677b6", func := "countwheel/countwheellaw15.RelationStrong", spec := "relationStrong", inPlace := ["maps.clone"], unfollowed := true, recurses := true, plainKeys := false, apart := false }
def RelationStrongSaid : Prop := relationStrongRow.holds Try.pinned (OpenSpec.ofChange relationStrongSpec)

/-- ITS FALSE NEIGHBOUR: 'it returns false'. Refute it at one input. -/
def relationStrongWrong : ChangeSpec := { name := "relationStrong", fn := fun _ => fun
  | [d1, d2] => { results := [.lit (.bool false)], args := [d1, d2] }
  | _ => none }
def RelationStrongWrongFalsely : Prop := relationStrongRow.holds Try.pinned (OpenSpec.ofChange relationStrongWrong)

/- THE SECOND FORM. 'bulk': how many values and letters a reading holds, each counted each time it is reached (what is shared counts as often as it is met; a slice's spare places count too). A statement '..UptoSaid' is the law's where the arguments, and the package variables that the reading takes, are together of bulk at most 1048576: NARROWER than '..Said'. Prove '..Said' where nothing that the law and all that it calls make is longer than what came in: it says more and counts as full. Else prove '..UptoSaid'. A law counts once. -/
mutual
def uptoBulk {H : Type} : DataW H → Nat
  | .lit (.string bytes) => bytes.length + 1
  | .lit _ => 1
  | .nil => 1
  | .ptr d => uptoBulk d + 1
  | .slice elems spare => uptoBulkAll elems + uptoBulkAll spare + 1
  | .agg parts => uptoBulkAll parts + 1
  | .iface _ d => uptoBulk d + 1
  | .map entries => uptoBulkEntries entries + 1
  | .held _ => 1
def uptoBulkAll {H : Type} : List (DataW H) → Nat
  | [] => 0
  | d :: r => uptoBulk d + uptoBulkAll r
def uptoBulkEntries {H : Type} : List (Lit × DataW H) → Nat
  | [] => 0
  | x :: r => uptoBulkEntry x + uptoBulkEntries r
def uptoBulkEntry {H : Type} : Lit × DataW H → Nat
  | (.string bytes, d) => bytes.length + uptoBulk d + 1
  | (_, d) => uptoBulk d + 1
 end
def uptoSmall : (H : Type) → List (DataW H) → Bool := fun _ ds => decide (uptoBulkAll ds ≤ 1048576)
def OpenSpec.upto (s : _root_.Go.ChangeSpec) : _root_.Go.OpenSpec := { _root_.Go.OpenSpec.ofChange s with cond := some uptoSmall }

/-- 'countwheellaw10.PairsReach', WHERE WHAT IT READS IS OF BULK AT MOST 1048576: true; the input reads as it did. -/
def pairsReachUptoRow : OpenClaim := { program := "ytnngldkpkhabeaa", sum := "3c191b7af1cb07c438a36c33d0580d2610bf32c0b5c69d39cc5ea2a6cd9677b6", func := "countwheel/countwheellaw10.PairsReach", spec := "pairsReach", unfollowed := true, recurses := true, plainKeys := false, apart := false, narrowed := true }
def PairsReachUptoSaid : Prop := pairsReachUptoRow.holds Try.pinned (OpenSpec.upto pairsReachSpec)

/-- 'countwheellaw15.RelationReaches', WHERE WHAT IT READS IS OF BULK AT MOST 1048576: true; the input reads as it did. -/
def relationReachesUptoRow : OpenClaim := { program := "ytnngldkpkhabeaa", sum := "3c191b7af1cb07c438a36c33d0580d2610bf32c0b5c69d39cc5ea2a6cd9677b6", func := "countwheel/countwheellaw15.RelationReaches", spec := "relationReaches", inPlace := ["maps.clone"], unfollowed := true, recurses := true, plainKeys := false, apart := false, narrowed := true }
def RelationReachesUptoSaid : Prop := relationReachesUptoRow.holds Try.pinned (OpenSpec.upto relationReachesSpec)

/-- 'countwheellaw15.RelationStrong', WHERE WHAT IT READS IS OF BULK AT MOST 1048576: true; the input reads as it did. -/
def relationStrongUptoRow : OpenClaim := { program := "ytnngldkpkhabeaa", sum := "3c191b7af1cb07c438a36c33d0580d2610bf32c0b5c69d39cc5ea2a6cd9677b6", func := "countwheel/countwheellaw15.RelationStrong", spec := "relationStrong", inPlace := ["maps.clone"], unfollowed := true, recurses := true, plainKeys := false, apart := false, narrowed := true }
def RelationStrongUptoSaid : Prop := relationStrongUptoRow.holds Try.pinned (OpenSpec.upto relationStrongSpec)

end Rows
end Go.Proofs.Ytnngldkpkhabeaa
