/-
  NARROWER THAN 'FOR EVERY INPUT', by the rows' own cells (each row's printed sentence says how): HeaderPuts: laid · HeaderReads: laid · PartsPuts: laid · PartsFinds: laid.
  DERIVED. THE GIVEN ROWS OF THIS SEAT. 4 by the template 'for every input the law returns true; each argument reads behind the call as it read before'; 0 by the template 'total and deterministic' (their statements: YteadednglodgpaaDoorTotals.lean).
  GIVEN WITH THE SEED: the statements are not yours to turn. If you find one false, say at which input.
  Laid BY PROGRAM, IN A SANDBOX (cutbox-rows.mjs): the forced cells as the released guide's own fill.sh prints them over the translation 6de7e79b78bc17e0… (all of the seat's roots in one cut). By AI agents, Wed Nov 11 2026. No macro, syntax, notation, axiom, sorry.
-/
import Derived.Test.YteadednglodgpaaDoorChecked
import GoSem.Claim
import GoSem.ClaimJoined
import GoSem.ClaimMapViews
import Derived.JoinedTies
import Derived.KernelRfl
namespace Go.Proofs.YteadednglodgpaaDoor
/- THE CELL 'sum', in the pinned program and in every row, IS THE sha256 OF THE DUMP (.gsa) THAT YteadednglodgpaaDoorProg.lean LOADS. Nothing in Lean hashes anything: it is a label: what it is worth is what the hold of that sum in a sandbox is worth. -/
noncomputable def Tryd.pinned : Pinned := { name := "yteadednglodgpaadoor", sum := "6de7e79b78bc17e0251784268c4e5c4fbec54678b4e4c29977a2be2d9665d143", checked := Tryd.checked }
namespace Rows
def none {H : Type} : Left H := { results := [], args := [] }

/- WHAT THE LISTED PACKAGE-LEVEL VARIABLES READ AS WHEN THE CALL BEGINS. Each datum BY PROGRAM (the guide's laid-datum.mjs) off the statement by which the dump's own 'gosem.cut.vars' lays the variable. In a bare row this is a premise. The card (YteadednglodgpaaDoorCards.lean) ties it to the program's text. -/
def laid_errors_errorType {H : Type} : DataW H := .iface "internal/reflectlite.rtype" (.agg [.ptr (.lit (.string [101, 114, 114, 111, 114]))])
def laid_countwheel_fault_names {H : Type} : DataW H := .agg [.lit (.string []), .lit (.string [97, 114, 103, 117, 109, 101, 110, 116]), .lit (.string [115, 104, 111, 114, 116]), .lit (.string [109, 97, 103, 105, 99]), .lit (.string [108, 101, 110, 103, 116, 104]), .lit (.string [115, 117, 109]), .lit (.string [102, 111, 114, 109]), .lit (.string [110, 97, 109, 101]), .lit (.string [109, 97, 110, 121]), .lit (.string [111, 114, 100, 101, 114]), .lit (.string [114, 101, 102, 101, 114, 101, 110, 99, 101]), .lit (.string [119, 105, 110, 100, 111, 119]), .lit (.string [111, 118, 101, 114, 108, 97, 112]), .lit (.string [112, 101, 114, 105, 111, 100]), .lit (.string [98, 117, 100, 103, 101, 116]), .lit (.string [112, 97, 105, 114]), .lit (.string [104, 97, 108, 116]), .lit (.string [115, 116, 97, 116, 101]), .lit (.string [114, 97, 110, 103, 101])]
def laid_countwheel_header_fewest {H : Type} : DataW H := .agg [.lit (.int .i64 1), .lit (.int .i64 1), .lit (.int .i64 0), .lit (.int .i64 0)]
def laid_countwheel_header_most {H : Type} : DataW H := .agg [.lit (.int .i64 32), .lit (.int .i64 16), .lit (.int .i64 240), .lit (.int .i64 512)]

/-- 'countwheellaw07.HeaderPuts': WHATEVER THE INPUT: true; the input reads as it did. -/
def headerPutsSpec : ChangeSpec := { name := "headerPuts", fn := fun _ => fun
  | [d1, d2] => { results := [.lit (.bool true)], args := [d1, d2] }
  | _ => none }
def headerPutsRow : OpenClaim := { program := "yteadednglodgpaadoor", sum := "6de7e79b78bc17e0251784268c4e5c4fbec54678b4e4c29977a2be2d9665d143", func := "countwheel/countwheellaw07.HeaderPuts", spec := "headerPuts", inPlace := ["internal/reflectlite.ValueOf", "(internal/reflectlite.Value).Type", "(internal/reflectlite.Value).IsNil", "internal/reflectlite.TypeOf", "(internal/reflectlite.Value).Elem", "(internal/reflectlite.Value).Set"], unfollowed := true, recurses := true, named := ["countwheel/fault.names", "countwheel/header.fewest", "countwheel/header.most", "errors.errorType"], apart := false, laid := [("errors.errorType", laid_errors_errorType), ("countwheel/fault.names", laid_countwheel_fault_names), ("countwheel/header.fewest", laid_countwheel_header_fewest), ("countwheel/header.most", laid_countwheel_header_most)] }
def HeaderPutsSaid : Prop := headerPutsRow.holds Tryd.pinned (OpenSpec.ofChange headerPutsSpec)

/-- ITS FALSE NEIGHBOUR: 'it returns false'. Refute it at one input. -/
def headerPutsWrong : ChangeSpec := { name := "headerPuts", fn := fun _ => fun
  | [d1, d2] => { results := [.lit (.bool false)], args := [d1, d2] }
  | _ => none }
def HeaderPutsWrongFalsely : Prop := headerPutsRow.holds Tryd.pinned (OpenSpec.ofChange headerPutsWrong)

/-- 'countwheellaw07.HeaderReads': WHATEVER THE INPUT: true; the input reads as it did. -/
def headerReadsSpec : ChangeSpec := { name := "headerReads", fn := fun _ => fun
  | [d1, d2] => { results := [.lit (.bool true)], args := [d1, d2] }
  | _ => none }
def headerReadsRow : OpenClaim := { program := "yteadednglodgpaadoor", sum := "6de7e79b78bc17e0251784268c4e5c4fbec54678b4e4c29977a2be2d9665d143", func := "countwheel/countwheellaw07.HeaderReads", spec := "headerReads", inPlace := ["internal/reflectlite.ValueOf", "(internal/reflectlite.Value).Type", "(internal/reflectlite.Value).IsNil", "internal/reflectlite.TypeOf", "(internal/reflectlite.Value).Elem", "(internal/reflectlite.Value).Set"], unfollowed := true, recurses := true, named := ["countwheel/fault.names", "countwheel/header.fewest", "countwheel/header.most", "errors.errorType"], apart := false, laid := [("errors.errorType", laid_errors_errorType), ("countwheel/fault.names", laid_countwheel_fault_names), ("countwheel/header.fewest", laid_countwheel_header_fewest), ("countwheel/header.most", laid_countwheel_header_most)] }
def HeaderReadsSaid : Prop := headerReadsRow.holds Tryd.pinned (OpenSpec.ofChange headerReadsSpec)

/-- ITS FALSE NEIGHBOUR: 'it returns false'. Refute it at one input. -/
def headerReadsWrong : ChangeSpec := { name := "headerReads", fn := fun _ => fun
  | [d1, d2] => { results := [.lit (.bool false)], args := [d1, d2] }
  | _ => none }
def HeaderReadsWrongFalsely : Prop := headerReadsRow.holds Tryd.pinned (OpenSpec.ofChange headerReadsWrong)

/-- 'countwheellaw08.PartsPuts': WHATEVER THE INPUT: true; the input reads as it did. -/
def partsPutsSpec : ChangeSpec := { name := "partsPuts", fn := fun _ => fun
  | [d1, d2] => { results := [.lit (.bool true)], args := [d1, d2] }
  | _ => none }
def partsPutsRow : OpenClaim := { program := "yteadednglodgpaadoor", sum := "6de7e79b78bc17e0251784268c4e5c4fbec54678b4e4c29977a2be2d9665d143", func := "countwheel/countwheellaw08.PartsPuts", spec := "partsPuts", inPlace := ["internal/reflectlite.ValueOf", "(internal/reflectlite.Value).Type", "(internal/reflectlite.Value).IsNil", "internal/reflectlite.TypeOf", "(internal/reflectlite.Value).Elem", "(internal/reflectlite.Value).Set"], unfollowed := true, recurses := true, named := ["countwheel/fault.names", "errors.errorType"], apart := false, laid := [("errors.errorType", laid_errors_errorType), ("countwheel/fault.names", laid_countwheel_fault_names)] }
def PartsPutsSaid : Prop := partsPutsRow.holds Tryd.pinned (OpenSpec.ofChange partsPutsSpec)

/-- ITS FALSE NEIGHBOUR: 'it returns false'. Refute it at one input. -/
def partsPutsWrong : ChangeSpec := { name := "partsPuts", fn := fun _ => fun
  | [d1, d2] => { results := [.lit (.bool false)], args := [d1, d2] }
  | _ => none }
def PartsPutsWrongFalsely : Prop := partsPutsRow.holds Tryd.pinned (OpenSpec.ofChange partsPutsWrong)

/-- 'countwheellaw08.PartsFinds': WHATEVER THE INPUT: true; the input reads as it did. -/
def partsFindsSpec : ChangeSpec := { name := "partsFinds", fn := fun _ => fun
  | [d1, d2, d3, d4] => { results := [.lit (.bool true)], args := [d1, d2, d3, d4] }
  | _ => none }
def partsFindsRow : OpenClaim := { program := "yteadednglodgpaadoor", sum := "6de7e79b78bc17e0251784268c4e5c4fbec54678b4e4c29977a2be2d9665d143", func := "countwheel/countwheellaw08.PartsFinds", spec := "partsFinds", unfollowed := true, recurses := true, named := ["countwheel/fault.names"], apart := false, laid := [("countwheel/fault.names", laid_countwheel_fault_names)] }
def PartsFindsSaid : Prop := partsFindsRow.holds Tryd.pinned (OpenSpec.ofChange partsFindsSpec)

/-- ITS FALSE NEIGHBOUR: 'it returns false'. Refute it at one input. -/
def partsFindsWrong : ChangeSpec := { name := "partsFinds", fn := fun _ => fun
  | [d1, d2, d3, d4] => { results := [.lit (.bool false)], args := [d1, d2, d3, d4] }
  | _ => none }
def PartsFindsWrongFalsely : Prop := partsFindsRow.holds Tryd.pinned (OpenSpec.ofChange partsFindsWrong)

/- THE SECOND FORM. 'bulk': how many values and letters a reading holds, each counted each time it is reached (what is shared counts as often as it is met; a slice's spare places count too). A statement '..UptoSaid' is the law's where the arguments, and the package variables that the reading takes, are together of bulk at most 1048576: NARROWER than '..Said'. Prove '..Said' where nothing that the law and all that it calls make is longer than what came in: it says more and counts as full. Else prove '..UptoSaid'. A law counts once. -/
mutual
def uptoBulk {H : Type} : DataW H → Nat
  | .lit (.string bytes) => bytes.length + 1
  | .lit _ => 1
  | .nil => 1
  | .ptr d => uptoBulk d + 1
  | .slice elems spare => uptoBulkAll elems + uptoBulkAll spare + 1
  | .agg parts => uptoBulkAll parts + 1
  | .iface _ d => uptoBulk d + 1
  | .map entries => uptoBulkEntries entries + 1
  | .held _ => 1
def uptoBulkAll {H : Type} : List (DataW H) → Nat
  | [] => 0
  | d :: r => uptoBulk d + uptoBulkAll r
def uptoBulkEntries {H : Type} : List (Lit × DataW H) → Nat
  | [] => 0
  | x :: r => uptoBulkEntry x + uptoBulkEntries r
def uptoBulkEntry {H : Type} : Lit × DataW H → Nat
  | (.string bytes, d) => bytes.length + uptoBulk d + 1
  | (_, d) => uptoBulk d + 1
 end
def uptoSmall : (H : Type) → List (DataW H) → Bool := fun _ ds => decide (uptoBulkAll ds ≤ 1048576)
def OpenSpec.upto (s : _root_.Go.ChangeSpec) : _root_.Go.OpenSpec := { _root_.Go.OpenSpec.ofChange s with cond := some uptoSmall }

/-- 'countwheellaw07.HeaderPuts', WHERE WHAT IT READS IS OF BULK AT MOST 1048576: true; the input reads as it did. -/
def headerPutsUptoRow : OpenClaim := { program := "yteadednglodgpaadoor", sum := "6de7e79b78bc17e0251784268c4e5c4fbec54678b4e4c29977a2be2d9665d143", func := "countwheel/countwheellaw07.HeaderPuts", spec := "headerPuts", inPlace := ["internal/reflectlite.ValueOf", "(internal/reflectlite.Value).Type", "(internal/reflectlite.Value).IsNil", "internal/reflectlite.TypeOf", "(internal/reflectlite.Value).Elem", "(internal/reflectlite.Value).Set"], unfollowed := true, recurses := true, named := ["countwheel/fault.names", "countwheel/header.fewest", "countwheel/header.most", "errors.errorType"], apart := false, laid := [("errors.errorType", laid_errors_errorType), ("countwheel/fault.names", laid_countwheel_fault_names), ("countwheel/header.fewest", laid_countwheel_header_fewest), ("countwheel/header.most", laid_countwheel_header_most)], narrowed := true }
def HeaderPutsUptoSaid : Prop := headerPutsUptoRow.holds Tryd.pinned (OpenSpec.upto headerPutsSpec)

/-- 'countwheellaw07.HeaderReads', WHERE WHAT IT READS IS OF BULK AT MOST 1048576: true; the input reads as it did. -/
def headerReadsUptoRow : OpenClaim := { program := "yteadednglodgpaadoor", sum := "6de7e79b78bc17e0251784268c4e5c4fbec54678b4e4c29977a2be2d9665d143", func := "countwheel/countwheellaw07.HeaderReads", spec := "headerReads", inPlace := ["internal/reflectlite.ValueOf", "(internal/reflectlite.Value).Type", "(internal/reflectlite.Value).IsNil", "internal/reflectlite.TypeOf", "(internal/reflectlite.Value).Elem", "(internal/reflectlite.Value).Set"], unfollowed := true, recurses := true, named := ["countwheel/fault.names", "countwheel/header.fewest", "countwheel/header.most", "errors.errorType"], apart := false, laid := [("errors.errorType", laid_errors_errorType), ("countwheel/fault.names", laid_countwheel_fault_names), ("countwheel/header.fewest", laid_countwheel_header_fewest), ("countwheel/header.most", laid_countwheel_header_most)], narrowed := true }
def HeaderReadsUptoSaid : Prop := headerReadsUptoRow.holds Tryd.pinned (OpenSpec.upto headerReadsSpec)

/-- 'countwheellaw08.PartsPuts', WHERE WHAT IT READS IS OF BULK AT MOST 1048576: true; the input reads as it did. -/
def partsPutsUptoRow : OpenClaim := { program := "yteadednglodgpaadoor", sum := "6de7e79b78bc17e0251784268c4e5c4fbec54678b4e4c29977a2be2d9665d143", func := "countwheel/countwheellaw08.PartsPuts", spec := "partsPuts", inPlace := ["internal/reflectlite.ValueOf", "(internal/reflectlite.Value).Type", "(internal/reflectlite.Value).IsNil", "internal/reflectlite.TypeOf", "(internal/reflectlite.Value).Elem", "(internal/reflectlite.Value).Set"], unfollowed := true, recurses := true, named := ["countwheel/fault.names", "errors.errorType"], apart := false, laid := [("errors.errorType", laid_errors_errorType), ("countwheel/fault.names", laid_countwheel_fault_names)], narrowed := true }
def PartsPutsUptoSaid : Prop := partsPutsUptoRow.holds Tryd.pinned (OpenSpec.upto partsPutsSpec)

/-- 'countwheellaw08.PartsFinds', WHERE WHAT IT READS IS OF BULK AT MOST 1048576: true; the input reads as it did. -/
def partsFindsUptoRow : OpenClaim := { program := "yteadednglodgpaadoor", sum := "6de7e79b78bc17e0251784268c4e5c4fbec54678b4e4c29977a2be2d9665d143", func := "countwheel/countwheellaw08.PartsFinds", spec := "partsFinds", unfollowed := true, recurses := true, named := ["countwheel/fault.names"], apart := false, laid := [("countwheel/fault.names", laid_countwheel_fault_names)], narrowed := true }
def PartsFindsUptoSaid : Prop := partsFindsUptoRow.holds Tryd.pinned (OpenSpec.upto partsFindsSpec)

end Rows
end Go.Proofs.YteadednglodgpaaDoor
