/-
  No cell of these rows narrows 'for every input' (looked for: loops, veiled, ifaces, maps, wideKeys, modest, calm, conditions, laid).
  DERIVED. THE GIVEN ROWS OF THIS SEAT. 2 by the template 'for every input the law returns true; each argument reads behind the call as it read before'; 0 by the template 'total and deterministic' (their statements: YteefmdelacihfaaTotals.lean).
  GIVEN WITH THE SEED: the statements are not yours to turn. If you find one false, say at which input.
  Laid BY PROGRAM, IN A SANDBOX (cutbox-rows.mjs): the forced cells as the released guide's own fill.sh prints them over the translation 4ed7092c13c4532d… (all of the seat's roots in one cut). By AI agents, Wed Nov 11 2026. No macro, syntax, notation, axiom, sorry.
-/
import Derived.Test.YteefmdelacihfaaChecked
import GoSem.Claim
import GoSem.ClaimJoined
import GoSem.ClaimMapViews
import Derived.JoinedTies
import Derived.KernelRfl
namespace Go.Proofs.Yteefmdelacihfaa
/- THE CELL 'sum', in the pinned program and in every row, IS THE sha256 OF THE DUMP (.gsa) THAT YteefmdelacihfaaProg.lean LOADS. Nothing in Lean hashes anything: it is a label: what it is worth is what the hold of that sum in a sandbox is worth. -/
noncomputable def Try.pinned : Pinned := { name := "yteefmdelacihfaa", sum := "4ed7092c13c4532d9eadf1493a05d6f72ee140cb548e094011d96d50768f1aa1", checked := Try.checked }
namespace Rows
def none {H : Type} : Left H := { results := [], args := [] }

/-- 'countwheellaw14.NeedSupplies': WHATEVER THE INPUT: true; the input reads as it did. -/
def needSuppliesSpec : ChangeSpec := { name := "needSupplies", fn := fun _ => fun
  | [d1, d2, d3, d4, d5] => { results := [.lit (.bool true)], args := [d1, d2, d3, d4, d5] }
  | _ => none }
def needSuppliesRow : OpenClaim := { program := "yteefmdelacihfaa", sum := "4ed7092c13c4532d9eadf1493a05d6f72ee140cb548e094011d96d50768f1aa1", func := "countwheel/countwheellaw14.NeedSupplies", spec := "needSupplies", unfollowed := true, recurses := true, apart := false }
def NeedSuppliesSaid : Prop := needSuppliesRow.holds Try.pinned (OpenSpec.ofChange needSuppliesSpec)

/-- ITS FALSE NEIGHBOUR: 'it returns false'. Refute it at one input. -/
def needSuppliesWrong : ChangeSpec := { name := "needSupplies", fn := fun _ => fun
  | [d1, d2, d3, d4, d5] => { results := [.lit (.bool false)], args := [d1, d2, d3, d4, d5] }
  | _ => none }
def NeedSuppliesWrongFalsely : Prop := needSuppliesRow.holds Try.pinned (OpenSpec.ofChange needSuppliesWrong)

/-- 'countwheellaw14.NeedShares': WHATEVER THE INPUT: true; the input reads as it did. -/
def needSharesSpec : ChangeSpec := { name := "needShares", fn := fun _ => fun
  | [d1, d2] => { results := [.lit (.bool true)], args := [d1, d2] }
  | _ => none }
def needSharesRow : OpenClaim := { program := "yteefmdelacihfaa", sum := "4ed7092c13c4532d9eadf1493a05d6f72ee140cb548e094011d96d50768f1aa1", func := "countwheel/countwheellaw14.NeedShares", spec := "needShares", unfollowed := true, recurses := true, apart := false }
def NeedSharesSaid : Prop := needSharesRow.holds Try.pinned (OpenSpec.ofChange needSharesSpec)

/-- ITS FALSE NEIGHBOUR: 'it returns false'. Refute it at one input. -/
def needSharesWrong : ChangeSpec := { name := "needShares", fn := fun _ => fun
  | [d1, d2] => { results := [.lit (.bool false)], args := [d1, d2] }
  | _ => none }
def NeedSharesWrongFalsely : Prop := needSharesRow.holds Try.pinned (OpenSpec.ofChange needSharesWrong)

/- THE SECOND FORM. 'bulk': how many values and letters a reading holds, each counted each time it is reached (what is shared counts as often as it is met; a slice's spare places count too). A statement '..UptoSaid' is the law's where the arguments, and the package variables that the reading takes, are together of bulk at most 1048576: NARROWER than '..Said'. Prove '..Said' where nothing that the law and all that it calls make is longer than what came in: it says more and counts as full. Else prove '..UptoSaid'. A law counts once. -/
mutual
def uptoBulk {H : Type} : DataW H → Nat
  | .lit (.string bytes) => bytes.length + 1
  | .lit _ => 1
  | .nil => 1
  | .ptr d => uptoBulk d + 1
  | .slice elems spare => uptoBulkAll elems + uptoBulkAll spare + 1
  | .agg parts => uptoBulkAll parts + 1
  | .iface _ d => uptoBulk d + 1
  | .map entries => uptoBulkEntries entries + 1
  | .held _ => 1
def uptoBulkAll {H : Type} : List (DataW H) → Nat
  | [] => 0
  | d :: r => uptoBulk d + uptoBulkAll r
def uptoBulkEntries {H : Type} : List (Lit × DataW H) → Nat
  | [] => 0
  | x :: r => uptoBulkEntry x + uptoBulkEntries r
def uptoBulkEntry {H : Type} : Lit × DataW H → Nat
  | (.string bytes, d) => bytes.length + uptoBulk d + 1
  | (_, d) => uptoBulk d + 1
 end
def uptoSmall : (H : Type) → List (DataW H) → Bool := fun _ ds => decide (uptoBulkAll ds ≤ 1048576)
def OpenSpec.upto (s : _root_.Go.ChangeSpec) : _root_.Go.OpenSpec := { _root_.Go.OpenSpec.ofChange s with cond := some uptoSmall }

/-- 'countwheellaw14.NeedSupplies', WHERE WHAT IT READS IS OF BULK AT MOST 1048576: true; the input reads as it did. -/
def needSuppliesUptoRow : OpenClaim := { program := "yteefmdelacihfaa", sum := "4ed7092c13c4532d9eadf1493a05d6f72ee140cb548e094011d96d50768f1aa1", func := "countwheel/countwheellaw14.NeedSupplies", spec := "needSupplies", unfollowed := true, recurses := true, apart := false, narrowed := true }
def NeedSuppliesUptoSaid : Prop := needSuppliesUptoRow.holds Try.pinned (OpenSpec.upto needSuppliesSpec)

/-- 'countwheellaw14.NeedShares', WHERE WHAT IT READS IS OF BULK AT MOST 1048576: true; the input reads as it did. -/
def needSharesUptoRow : OpenClaim := { program := "yteefmdelacihfaa", sum := "4ed7092c13c4532d9eadf1493a05d6f72ee140cb548e094011d96d50768f1aa1", func := "countwheel/countwheellaw14.NeedShares", spec := "needShares", unfollowed := true, recurses := true, apart := false, narrowed := true }
def NeedSharesUptoSaid : Prop := needSharesUptoRow.holds Try.pinned (OpenSpec.upto needSharesSpec)

end Rows
end Go.Proofs.Yteefmdelacihfaa
