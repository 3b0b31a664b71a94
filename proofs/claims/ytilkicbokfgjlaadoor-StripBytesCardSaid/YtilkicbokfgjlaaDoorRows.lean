/-
  NARROWER THAN 'FOR EVERY INPUT', by the rows' own cells (each row's printed sentence says how): StripBytes: laid · StripGets: laid.
  DERIVED. THE GIVEN ROWS OF THIS SEAT. 2 by the template 'for every input the law returns true; each argument reads behind the call as it read before'; 0 by the template 'total and deterministic' (their statements: YtilkicbokfgjlaaDoorTotals.lean).
  GIVEN WITH THE SEED: the statements are not yours to turn. If you find one false, say at which input.
  Laid BY PROGRAM, IN A SANDBOX (cutbox-rows.mjs): the forced cells as the released guide's own fill.sh prints them over the translation 882e674510945246… (all of the seat's roots in one cut). By AI agents, Wed Nov 11 2026. No macro, syntax, notation, axiom, sorry.
-/
import Derived.Test.YtilkicbokfgjlaaDoorChecked
import GoSem.Claim
import GoSem.ClaimJoined
import GoSem.ClaimMapViews
import Derived.JoinedTies
import Derived.KernelRfl
namespace Go.Proofs.YtilkicbokfgjlaaDoor
/- THE CELL 'sum', in the pinned program and in every row, IS THE sha256 OF THE DUMP (.gsa) THAT YtilkicbokfgjlaaDoorProg.lean LOADS. Nothing in Lean hashes anything: it is a label: what it is worth is what the hold of that sum in a sandbox is worth. -/
noncomputable def Tryd.pinned : Pinned := { name := "ytilkicbokfgjlaadoor", sum := "882e674510945246dea624aa211164c2c623fb2d8e7fe042c6fe9b761eaff412", checked := Tryd.checked }
namespace Rows
def none {H : Type} : Left H := { results := [], args := [] }

/- WHAT THE LISTED PACKAGE-LEVEL VARIABLES READ AS WHEN THE CALL BEGINS. Each datum BY PROGRAM (the guide's laid-datum.mjs) off the statement by which the dump's own 'gosem.cut.vars' lays the variable. In a bare row this is a premise. The card (YtilkicbokfgjlaaDoorCards.lean) ties it to the program's text. -/
def laid_errors_errorType {H : Type} : DataW H := .iface "internal/reflectlite.rtype" (.agg [.ptr (.lit (.string [101, 114, 114, 111, 114]))])
def laid_countwheel_fault_names {H : Type} : DataW H := .agg [.lit (.string []), .lit (.string [97, 114, 103, 117, 109, 101, 110, 116]), .lit (.string [115, 104, 111, 114, 116]), .lit (.string [109, 97, 103, 105, 99]), .lit (.string [108, 101, 110, 103, 116, 104]), .lit (.string [115, 117, 109]), .lit (.string [102, 111, 114, 109]), .lit (.string [110, 97, 109, 101]), .lit (.string [109, 97, 110, 121]), .lit (.string [111, 114, 100, 101, 114]), .lit (.string [114, 101, 102, 101, 114, 101, 110, 99, 101]), .lit (.string [119, 105, 110, 100, 111, 119]), .lit (.string [111, 118, 101, 114, 108, 97, 112]), .lit (.string [112, 101, 114, 105, 111, 100]), .lit (.string [98, 117, 100, 103, 101, 116]), .lit (.string [112, 97, 105, 114]), .lit (.string [104, 97, 108, 116]), .lit (.string [115, 116, 97, 116, 101]), .lit (.string [114, 97, 110, 103, 101])]

/-- 'countwheellaw27.StripBytes': WHATEVER THE INPUT: true; the input reads as it did. -/
def stripBytesSpec : ChangeSpec := { name := "stripBytes", fn := fun _ => fun
  | [d1, d2] => { results := [.lit (.bool true)], args := [d1, d2] }
  | _ => none }
def stripBytesRow : OpenClaim := { program := "ytilkicbokfgjlaadoor", sum := "882e674510945246dea624aa211164c2c623fb2d8e7fe042c6fe9b761eaff412", func := "countwheel/countwheellaw27.StripBytes", spec := "stripBytes", inPlace := ["internal/abi.NoEscape", "internal/reflectlite.ValueOf", "(internal/reflectlite.Value).Type", "(internal/reflectlite.Value).IsNil", "internal/reflectlite.TypeOf", "(internal/reflectlite.Value).Elem", "(internal/reflectlite.Value).Set"], unfollowed := true, recurses := true, named := ["countwheel/fault.names", "errors.errorType"], apart := false, laid := [("errors.errorType", laid_errors_errorType), ("countwheel/fault.names", laid_countwheel_fault_names)] }
def StripBytesSaid : Prop := stripBytesRow.holds Tryd.pinned (OpenSpec.ofChange stripBytesSpec)

/-- ITS FALSE NEIGHBOUR: 'it returns false'. Refute it at one input. -/
def stripBytesWrong : ChangeSpec := { name := "stripBytes", fn := fun _ => fun
  | [d1, d2] => { results := [.lit (.bool false)], args := [d1, d2] }
  | _ => none }
def StripBytesWrongFalsely : Prop := stripBytesRow.holds Tryd.pinned (OpenSpec.ofChange stripBytesWrong)

/-- 'countwheellaw27.StripGets': WHATEVER THE INPUT: true; the input reads as it did. -/
def stripGetsSpec : ChangeSpec := { name := "stripGets", fn := fun _ => fun
  | [d] => { results := [.lit (.bool true)], args := [d] }
  | _ => none }
def stripGetsRow : OpenClaim := { program := "ytilkicbokfgjlaadoor", sum := "882e674510945246dea624aa211164c2c623fb2d8e7fe042c6fe9b761eaff412", func := "countwheel/countwheellaw27.StripGets", spec := "stripGets", inPlace := ["internal/reflectlite.ValueOf", "(internal/reflectlite.Value).Type", "(internal/reflectlite.Value).IsNil", "internal/reflectlite.TypeOf", "(internal/reflectlite.Value).Elem", "(internal/reflectlite.Value).Set", "internal/abi.NoEscape"], unfollowed := true, recurses := true, named := ["countwheel/fault.names", "errors.errorType"], apart := false, laid := [("errors.errorType", laid_errors_errorType), ("countwheel/fault.names", laid_countwheel_fault_names)] }
def StripGetsSaid : Prop := stripGetsRow.holds Tryd.pinned (OpenSpec.ofChange stripGetsSpec)

/-- ITS FALSE NEIGHBOUR: 'it returns false'. Refute it at one input. -/
def stripGetsWrong : ChangeSpec := { name := "stripGets", fn := fun _ => fun
  | [d] => { results := [.lit (.bool false)], args := [d] }
  | _ => none }
def StripGetsWrongFalsely : Prop := stripGetsRow.holds Tryd.pinned (OpenSpec.ofChange stripGetsWrong)

/- THE SECOND FORM. 'bulk': how many values and letters a reading holds, each counted each time it is reached (what is shared counts as often as it is met; a slice's spare places count too). A statement '..UptoSaid' is the law's where the arguments, and the package variables that the reading takes, are together of bulk at most 1048576: NARROWER than '..Said'. Prove '..Said' where nothing that the law and all that it calls make is longer than what came in: it says more and counts as full. Else prove '..UptoSaid'. A law counts once. -/
mutual
def uptoBulk {H : Type} : DataW H → Nat
  | .lit (.string bytes) => bytes.length + 1
  | .lit _ => 1
  | .nil => 1
  | .ptr d => uptoBulk d + 1
  | .slice elems spare => uptoBulkAll elems + uptoBulkAll spare + 1
  | .agg parts => uptoBulkAll parts + 1
  | .iface _ d => uptoBulk d + 1
  | .map entries => uptoBulkEntries entries + 1
  | .held _ => 1
def uptoBulkAll {H : Type} : List (DataW H) → Nat
  | [] => 0
  | d :: r => uptoBulk d + uptoBulkAll r
def uptoBulkEntries {H : Type} : List (Lit × DataW H) → Nat
  | [] => 0
  | x :: r => uptoBulkEntry x + uptoBulkEntries r
def uptoBulkEntry {H : Type} : Lit × DataW H → Nat
  | (.string bytes, d) => bytes.length + uptoBulk d + 1
  | (_, d) => uptoBulk d + 1
 end
def uptoSmall : (H : Type) → List (DataW H) → Bool := fun _ ds => decide (uptoBulkAll ds ≤ 1048576)
def OpenSpec.upto (s : _root_.Go.ChangeSpec) : _root_.Go.OpenSpec := { _root_.Go.OpenSpec.ofChange s with cond := some uptoSmall }

/-- 'countwheellaw27.StripBytes', WHERE WHAT IT READS IS OF BULK AT MOST 1048576: true; the input reads as it did. -/
def stripBytesUptoRow : OpenClaim := { program := "ytilkicbokfgjlaadoor", sum := "882e674510945246dea624aa211164c2c623fb2d8e7fe042c6fe9b761eaff412", func := "countwheel/countwheellaw27.StripBytes", spec := "stripBytes", inPlace := ["internal/abi.NoEscape", "internal/reflectlite.ValueOf", "(internal/reflectlite.Value).Type", "(internal/reflectlite.Value).IsNil", "internal/reflectlite.TypeOf", "(internal/reflectlite.Value).Elem", "(internal/reflectlite.Value).Set"], unfollowed := true, recurses := true, named := ["countwheel/fault.names", "errors.errorType"], apart := false, laid := [("errors.errorType", laid_errors_errorType), ("countwheel/fault.names", laid_countwheel_fault_names)], narrowed := true }
def StripBytesUptoSaid : Prop := stripBytesUptoRow.holds Tryd.pinned (OpenSpec.upto stripBytesSpec)

/-- 'countwheellaw27.StripGets', WHERE WHAT IT READS IS OF BULK AT MOST 1048576: true; the input reads as it did. -/
def stripGetsUptoRow : OpenClaim := { program := "ytilkicbokfgjlaadoor", sum := "882e674510945246dea624aa211164c2c623fb2d8e7fe042c6fe9b761eaff412", func := "countwheel/countwheellaw27.StripGets", spec := "stripGets", inPlace := ["internal/reflectlite.ValueOf", "(internal/reflectlite.Value).Type", "(internal/reflectlite.Value).IsNil", "internal/reflectlite.TypeOf", "(internal/reflectlite.Value).Elem", "(internal/reflectlite.Value).Set", "internal/abi.NoEscape"], unfollowed := true, recurses := true, named := ["countwheel/fault.names", "errors.errorType"], apart := false, laid := [("errors.errorType", laid_errors_errorType), ("countwheel/fault.names", laid_countwheel_fault_names)], narrowed := true }
def StripGetsUptoSaid : Prop := stripGetsUptoRow.holds Tryd.pinned (OpenSpec.upto stripGetsSpec)

end Rows
end Go.Proofs.YtilkicbokfgjlaaDoor
