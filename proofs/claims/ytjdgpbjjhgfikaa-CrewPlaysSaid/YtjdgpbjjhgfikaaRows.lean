/-
  No cell of these rows narrows 'for every input' (looked for: loops, veiled, ifaces, maps, wideKeys, modest, calm, conditions, laid).
  DERIVED. THE GIVEN ROWS OF THIS SEAT. 3 by the template 'for every input the law returns true; each argument reads behind the call as it read before'; 0 by the template 'total and deterministic' (their statements: YtjdgpbjjhgfikaaTotals.lean).
  GIVEN WITH THE SEED: the statements are not yours to turn. If you find one false, say at which input.
  Laid BY PROGRAM, IN A SANDBOX (cutbox-rows.mjs): the forced cells as the released guide's own fill.sh prints them over the translation 840da6930c556392… (all of the seat's roots in one cut). By AI agents, Wed Nov 11 2026. No macro, syntax, notation, axiom, sorry.
-/
import Derived.Test.YtjdgpbjjhgfikaaChecked
import GoSem.Claim
import GoSem.ClaimJoined
import GoSem.ClaimMapViews
import Derived.JoinedTies
import Derived.KernelRfl
namespace Go.Proofs.Ytjdgpbjjhgfikaa
/- THE CELL 'sum', in the pinned program and in every row, IS THE sha256 OF THE DUMP (.gsa) THAT YtjdgpbjjhgfikaaProg.lean LOADS. Nothing in Lean hashes anything: it is a label: what it is worth is what the hold of that sum in a sandbox is worth. -/
noncomputable def Try.pinned : Pinned := { name := "ytjdgpbjjhgfikaa", sum := "840da6930c5563921c921c5ba945c45b16fe7a8981525c56e346e12aa8a6d915", checked := Try.checked }
namespace Rows
def none {H : Type} : Left H := { results := [], args := [] }

/-- 'countwheellaw22.CrewPlays': WHATEVER THE INPUT: true; the input reads as it did. -/
def crewPlaysSpec : ChangeSpec := { name := "crewPlays", fn := fun _ => fun
  | [d1, d2, d3] => { results := [.lit (.bool true)], args := [d1, d2, d3] }
  | _ => none }
def crewPlaysRow : OpenClaim := { program := "ytjdgpbjjhgfikaa", sum := "840da6930c5563921c921c5ba945c45b16fe7a8981525c56e346e12aa8a6d915", func := "countwheel/countwheellaw22.CrewPlays", spec := "crewPlays", unfollowed := true, recurses := true, apart := false }
def CrewPlaysSaid : Prop := crewPlaysRow.holds Try.pinned (OpenSpec.ofChange crewPlaysSpec)

/-- ITS FALSE NEIGHBOUR: 'it returns false'. Refute it at one input. -/
def crewPlaysWrong : ChangeSpec := { name := "crewPlays", fn := fun _ => fun
  | [d1, d2, d3] => { results := [.lit (.bool false)], args := [d1, d2, d3] }
  | _ => none }
def CrewPlaysWrongFalsely : Prop := crewPlaysRow.holds Try.pinned (OpenSpec.ofChange crewPlaysWrong)

/-- 'countwheellaw22.CrewWithout': WHATEVER THE INPUT: true; the input reads as it did. -/
def crewWithoutSpec : ChangeSpec := { name := "crewWithout", fn := fun _ => fun
  | [d1, d2, d3] => { results := [.lit (.bool true)], args := [d1, d2, d3] }
  | _ => none }
def crewWithoutRow : OpenClaim := { program := "ytjdgpbjjhgfikaa", sum := "840da6930c5563921c921c5ba945c45b16fe7a8981525c56e346e12aa8a6d915", func := "countwheel/countwheellaw22.CrewWithout", spec := "crewWithout", unfollowed := true, recurses := true, apart := false }
def CrewWithoutSaid : Prop := crewWithoutRow.holds Try.pinned (OpenSpec.ofChange crewWithoutSpec)

/-- ITS FALSE NEIGHBOUR: 'it returns false'. Refute it at one input. -/
def crewWithoutWrong : ChangeSpec := { name := "crewWithout", fn := fun _ => fun
  | [d1, d2, d3] => { results := [.lit (.bool false)], args := [d1, d2, d3] }
  | _ => none }
def CrewWithoutWrongFalsely : Prop := crewWithoutRow.holds Try.pinned (OpenSpec.ofChange crewWithoutWrong)

/-- 'countwheellaw22.CrewIgnores': WHATEVER THE INPUT: true; the input reads as it did. -/
def crewIgnoresSpec : ChangeSpec := { name := "crewIgnores", fn := fun _ => fun
  | [d1, d2, d3, d4] => { results := [.lit (.bool true)], args := [d1, d2, d3, d4] }
  | _ => none }
def crewIgnoresRow : OpenClaim := { program := "ytjdgpbjjhgfikaa", sum := "840da6930c5563921c921c5ba945c45b16fe7a8981525c56e346e12aa8a6d915", func := "countwheel/countwheellaw22.CrewIgnores", spec := "crewIgnores", unfollowed := true, recurses := true, apart := false }
def CrewIgnoresSaid : Prop := crewIgnoresRow.holds Try.pinned (OpenSpec.ofChange crewIgnoresSpec)

/-- ITS FALSE NEIGHBOUR: 'it returns false'. Refute it at one input. -/
def crewIgnoresWrong : ChangeSpec := { name := "crewIgnores", fn := fun _ => fun
  | [d1, d2, d3, d4] => { results := [.lit (.bool false)], args := [d1, d2, d3, d4] }
  | _ => none }
def CrewIgnoresWrongFalsely : Prop := crewIgnoresRow.holds Try.pinned (OpenSpec.ofChange crewIgnoresWrong)

/- THE SECOND FORM. 'bulk': how many values and letters a reading holds, each counted each time it is reached (what is shared counts as often as it is met; a slice's spare places count too). A statement '..UptoSaid' is the law's where the arguments, and the package variables that the reading takes, are together of bulk at most 1048576: NARROWER than '..Said'. Prove '..Said' where nothing that the law and all that it calls make is longer than what came in: it says more and counts as full. Else prove '..UptoSaid'. A law counts once. -/
mutual
def uptoBulk {H : Type} : DataW H → Nat
  | .lit (.string bytes) => bytes.length + 1
  | .lit _ => 1
  | .nil => 1
  | .ptr d => uptoBulk d + 1
  | .slice elems spare => uptoBulkAll elems + uptoBulkAll spare + 1
  | .agg parts => uptoBulkAll parts + 1
  | .iface _ d => uptoBulk d + 1
  | .map entries => uptoBulkEntries entries + 1
  | .held _ => 1
def uptoBulkAll {H : Type} : List (DataW H) → Nat
  | [] => 0
  | d :: r => uptoBulk d + uptoBulkAll r
def uptoBulkEntries {H : Type} : List (Lit × DataW H) → Nat
  | [] => 0
  | x :: r => uptoBulkEntry x + uptoBulkEntries r
def uptoBulkEntry {H : Type} : Lit × DataW H → Nat
  | (.string bytes, d) => bytes.length + uptoBulk d + 1
  | (_, d) => uptoBulk d + 1
 end
def uptoSmall : (H : Type) → List (DataW H) → Bool := fun _ ds => decide (uptoBulkAll ds ≤ 1048576)
def OpenSpec.upto (s : _root_.Go.ChangeSpec) : _root_.Go.OpenSpec := { _root_.Go.OpenSpec.ofChange s with cond := some uptoSmall }

/-- 'countwheellaw22.CrewPlays', WHERE WHAT IT READS IS OF BULK AT MOST 1048576: true; the input reads as it did. -/
def crewPlaysUptoRow : OpenClaim := { program := "ytjdgpbjjhgfikaa", sum := "840da6930c5563921c921c5ba945c45b16fe7a8981525c56e346e12aa8a6d915", func := "countwheel/countwheellaw22.CrewPlays", spec := "crewPlays", unfollowed := true, recurses := true, apart := false, narrowed := true }
def CrewPlaysUptoSaid : Prop := crewPlaysUptoRow.holds Try.pinned (OpenSpec.upto crewPlaysSpec)

/-- 'countwheellaw22.CrewWithout', WHERE WHAT IT READS IS OF BULK AT MOST 1048576: true; the input reads as it did. -/
def crewWithoutUptoRow : OpenClaim := { program := "ytjdgpbjjhgfikaa", sum := "840da6930c5563921c921c5ba945c45b16fe7a8981525c56e346e12aa8a6d915", func := "countwheel/countwheellaw22.CrewWithout", spec := "crewWithout", unfollowed := true, recurses := true, apart := false, narrowed := true }
def CrewWithoutUptoSaid : Prop := crewWithoutUptoRow.holds Try.pinned (OpenSpec.upto crewWithoutSpec)

/-- 'countwheellaw22.CrewIgnores', WHERE WHAT IT READS IS OF BULK AT MOST 1048576: true; the input reads as it did. -/
def crewIgnoresUptoRow : OpenClaim := { program := "ytjdgpbjjhgfikaa", sum := "840da6930c5563921c921c5ba945c45b16fe7a8981525c56e346e12aa8a6d915", func := "countwheel/countwheellaw22.CrewIgnores", spec := "crewIgnores", unfollowed := true, recurses := true, apart := false, narrowed := true }
def CrewIgnoresUptoSaid : Prop := crewIgnoresUptoRow.holds Try.pinned (OpenSpec.upto crewIgnoresSpec)

end Rows
end Go.Proofs.Ytjdgpbjjhgfikaa
