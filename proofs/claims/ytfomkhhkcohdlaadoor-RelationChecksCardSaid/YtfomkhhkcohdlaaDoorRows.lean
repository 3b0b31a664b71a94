/-
  NARROWER THAN 'FOR EVERY INPUT', by the rows' own cells (each row's printed sentence says how): RelationChecks: laid.
  DERIVED. THE GIVEN ROWS OF THIS SEAT. 1 by the template 'for every input the law returns true; each argument reads behind the call as it read before'; 0 by the template 'total and deterministic' (their statements: YtfomkhhkcohdlaaDoorTotals.lean).
  GIVEN WITH THE SEED: the statements are not yours to turn. If you find one false, say at which input.
  Laid BY PROGRAM, IN A SANDBOX (cutbox-rows.mjs): the forced cells as the released guide's own fill.sh prints them over the translation c9823e18a6bef51f… (all of the seat's roots in one cut). By AI agents, Wed Nov 11 2026. No macro, syntax, notation, axiom, sorry.
-/
import Derived.Test.YtfomkhhkcohdlaaDoorChecked
import GoSem.Claim
import GoSem.ClaimJoined
import GoSem.ClaimMapViews
import Derived.JoinedTies
import Derived.KernelRfl
namespace Go.Proofs.YtfomkhhkcohdlaaDoor
/- THE CELL 'sum', in the pinned program and in every row, IS THE sha256 OF THE DUMP (.gsa) THAT YtfomkhhkcohdlaaDoorProg.lean LOADS. Nothing in Lean hashes anything: it is a label: what it is worth is what the hold of that sum in a sandbox is worth. -/
noncomputable def Tryd.pinned : Pinned := { name := "ytfomkhhkcohdlaadoor", sum := "c9823e18a6bef51fc53fb3de468b4cc7a58880643da28f55c44c15063d7c7e33", checked := Tryd.checked }
namespace Rows
def none {H : Type} : Left H := { results := [], args := [] }

/- WHAT THE LISTED PACKAGE-LEVEL VARIABLES READ AS WHEN THE CALL BEGINS. Each datum BY PROGRAM (the guide's laid-datum.mjs) off the statement by which the dump's own 'gosem.cut.vars' lays the variable. In a bare row this is a premise. The card (YtfomkhhkcohdlaaDoorCards.lean) ties it to the program's text. -/
def laid_errors_errorType {H : Type} : DataW H := .iface "internal/reflectlite.rtype" (.agg [.ptr (.lit (.string [101, 114, 114, 111, 114]))])
def laid_countwheel_fault_names {H : Type} : DataW H := .agg [.lit (.string []), .lit (.string [97, 114, 103, 117, 109, 101, 110, 116]), .lit (.string [115, 104, 111, 114, 116]), .lit (.string [109, 97, 103, 105, 99]), .lit (.string [108, 101, 110, 103, 116, 104]), .lit (.string [115, 117, 109]), .lit (.string [102, 111, 114, 109]), .lit (.string [110, 97, 109, 101]), .lit (.string [109, 97, 110, 121]), .lit (.string [111, 114, 100, 101, 114]), .lit (.string [114, 101, 102, 101, 114, 101, 110, 99, 101]), .lit (.string [119, 105, 110, 100, 111, 119]), .lit (.string [111, 118, 101, 114, 108, 97, 112]), .lit (.string [112, 101, 114, 105, 111, 100]), .lit (.string [98, 117, 100, 103, 101, 116]), .lit (.string [112, 97, 105, 114]), .lit (.string [104, 97, 108, 116]), .lit (.string [115, 116, 97, 116, 101]), .lit (.string [114, 97, 110, 103, 101])]

/-- 'countwheellaw15.RelationChecks': WHATEVER THE INPUT: true; the input reads as it did. -/
def relationChecksSpec : ChangeSpec := { name := "relationChecks", fn := fun _ => fun
  | [d1, d2, d3, d4] => { results := [.lit (.bool true)], args := [d1, d2, d3, d4] }
  | _ => none }
def relationChecksRow : OpenClaim := { program := "ytfomkhhkcohdlaadoor", sum := "c9823e18a6bef51fc53fb3de468b4cc7a58880643da28f55c44c15063d7c7e33", func := "countwheel/countwheellaw15.RelationChecks", spec := "relationChecks", inPlace := ["maps.clone", "internal/reflectlite.ValueOf", "(internal/reflectlite.Value).Type", "(internal/reflectlite.Value).IsNil", "internal/reflectlite.TypeOf", "(internal/reflectlite.Value).Elem", "(internal/reflectlite.Value).Set"], unfollowed := true, recurses := true, named := ["countwheel/fault.names", "errors.errorType"], apart := false, laid := [("errors.errorType", laid_errors_errorType), ("countwheel/fault.names", laid_countwheel_fault_names)] }
def RelationChecksSaid : Prop := relationChecksRow.holds Tryd.pinned (OpenSpec.ofChange relationChecksSpec)

/-- ITS FALSE NEIGHBOUR: 'it returns false'. Refute it at one input. -/
def relationChecksWrong : ChangeSpec := { name := "relationChecks", fn := fun _ => fun
  | [d1, d2, d3, d4] => { results := [.lit (.bool false)], args := [d1, d2, d3, d4] }
  | _ => none }
def RelationChecksWrongFalsely : Prop := relationChecksRow.holds Tryd.pinned (OpenSpec.ofChange relationChecksWrong)

/- THE SECOND FORM. 'bulk': how many values and letters a reading holds, each counted each time it is reached (what is shared counts as often as it is met; a slice's spare places count too). A statement '..UptoSaid' is the law's where the arguments, and the package variables that the reading takes, are together of bulk at most 1048576: NARROWER than '..Said'. Prove '..Said' where nothing that the law and all that it calls make is longer than what came in: it says more and counts as full. Else prove '..UptoSaid'. A law counts once. -/
mutual
def uptoBulk {H : Type} : DataW H → Nat
  | .lit (.string bytes) => bytes.length + 1
  | .lit _ => 1
  | .nil => 1
  | .ptr d => uptoBulk d + 1
  | .slice elems spare => uptoBulkAll elems + uptoBulkAll spare + 1
  | .agg parts => uptoBulkAll parts + 1
  | .iface _ d => uptoBulk d + 1
  | .map entries => uptoBulkEntries entries + 1
  | .held _ => 1
def uptoBulkAll {H : Type} : List (DataW H) → Nat
  | [] => 0
  | d :: r => uptoBulk d + uptoBulkAll r
def uptoBulkEntries {H : Type} : List (Lit × DataW H) → Nat
  | [] => 0
  | x :: r => uptoBulkEntry x + uptoBulkEntries r
def uptoBulkEntry {H : Type} : Lit × DataW H → Nat
  | (.string bytes, d) => bytes.length + uptoBulk d + 1
  | (_, d) => uptoBulk d + 1
 end
def uptoSmall : (H : Type) → List (DataW H) → Bool := fun _ ds => decide (uptoBulkAll ds ≤ 1048576)
def OpenSpec.upto (s : _root_.Go.ChangeSpec) : _root_.Go.OpenSpec := { _root_.Go.OpenSpec.ofChange s with cond := some uptoSmall }

/-- 'countwheellaw15.RelationChecks', WHERE WHAT IT READS IS OF BULK AT MOST 1048576: true; the input reads as it did. -/
def relationChecksUptoRow : OpenClaim := { program := "ytfomkhhkcohdlaadoor", sum := "c9823e18a6bef51fc53fb3de468b4cc7a58880643da28f55c44c15063d7c7e33", func := "countwheel/countwheellaw15.RelationChecks", spec := "relationChecks", inPlace := ["maps.clone", "internal/reflectlite.ValueOf", "(internal/reflectlite.Value).Type", "(internal/reflectlite.Value).IsNil", "internal/reflectlite.TypeOf", "(internal/reflectlite.Value).Elem", "(internal/reflectlite.Value).Set"], unfollowed := true, recurses := true, named := ["countwheel/fault.names", "errors.errorType"], apart := false, laid := [("errors.errorType", laid_errors_errorType), ("countwheel/fault.names", laid_countwheel_fault_names)], narrowed := true }
def RelationChecksUptoSaid : Prop := relationChecksUptoRow.holds Tryd.pinned (OpenSpec.upto relationChecksSpec)

end Rows
end Go.Proofs.YtfomkhhkcohdlaaDoor
