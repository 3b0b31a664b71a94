/-
  NARROWER THAN 'FOR EVERY INPUT', by the rows' own cells (each row's printed sentence says how): PlanMakes: laid · PlanBest: laid · PlanWords: laid · ShiftBack: laid.
  DERIVED. THE GIVEN ROWS OF THIS SEAT. 4 by the template 'for every input the law returns true; each argument reads behind the call as it read before'; 0 by the template 'total and deterministic' (their statements: YtpjillclladjaaaDoorTotals.lean).
  GIVEN WITH THE SEED: the statements are not yours to turn. If you find one false, say at which input.
  Laid BY PROGRAM, IN A SANDBOX (cutbox-rows.mjs): the forced cells as the released guide's own fill.sh prints them over the translation 05408b266d6ffca9… (all of the seat's roots in one cut). By AI agents, Wed Nov 11 2026. No macro, syntax, notation, axiom, sorry.
-/
import Derived.Test.YtpjillclladjaaaDoorChecked
import GoSem.Claim
import GoSem.ClaimJoined
import GoSem.ClaimMapViews
import Derived.JoinedTies
import Derived.KernelRfl
namespace Go.Proofs.YtpjillclladjaaaDoor
/- THE CELL 'sum', in the pinned program and in every row, IS THE sha256 OF THE DUMP (.gsa) THAT YtpjillclladjaaaDoorProg.lean LOADS. Nothing in Lean hashes anything: it is a label: what it is worth is what the hold of that sum in a sandbox is worth. -/
noncomputable def Tryd.pinned : Pinned := { name := "ytpjillclladjaaadoor", sum := "05408b266d6ffca9ebe2c477958a0a35e238ff2677386f0734e9233fcb272131", checked := Tryd.checked }
namespace Rows
def none {H : Type} : Left H := { results := [], args := [] }

/- WHAT THE LISTED PACKAGE-LEVEL VARIABLES READ AS WHEN THE CALL BEGINS. Each datum BY PROGRAM (the guide's laid-datum.mjs) off the statement by which the dump's own 'gosem.cut.vars' lays the variable. In a bare row this is a premise. The card (YtpjillclladjaaaDoorCards.lean) ties it to the program's text. -/
def laid_errors_errorType {H : Type} : DataW H := .iface "internal/reflectlite.rtype" (.agg [.ptr (.lit (.string [101, 114, 114, 111, 114]))])
def laid_countwheel_fault_names {H : Type} : DataW H := .agg [.lit (.string []), .lit (.string [97, 114, 103, 117, 109, 101, 110, 116]), .lit (.string [115, 104, 111, 114, 116]), .lit (.string [109, 97, 103, 105, 99]), .lit (.string [108, 101, 110, 103, 116, 104]), .lit (.string [115, 117, 109]), .lit (.string [102, 111, 114, 109]), .lit (.string [110, 97, 109, 101]), .lit (.string [109, 97, 110, 121]), .lit (.string [111, 114, 100, 101, 114]), .lit (.string [114, 101, 102, 101, 114, 101, 110, 99, 101]), .lit (.string [119, 105, 110, 100, 111, 119]), .lit (.string [111, 118, 101, 114, 108, 97, 112]), .lit (.string [112, 101, 114, 105, 111, 100]), .lit (.string [98, 117, 100, 103, 101, 116]), .lit (.string [112, 97, 105, 114]), .lit (.string [104, 97, 108, 116]), .lit (.string [115, 116, 97, 116, 101]), .lit (.string [114, 97, 110, 103, 101])]

/-- 'countwheellaw32.PlanMakes': WHATEVER THE INPUT: true; the input reads as it did. -/
def planMakesSpec : ChangeSpec := { name := "planMakes", fn := fun _ => fun
  | [d1, d2, d3] => { results := [.lit (.bool true)], args := [d1, d2, d3] }
  | _ => none }
def planMakesRow : OpenClaim := { program := "ytpjillclladjaaadoor", sum := "05408b266d6ffca9ebe2c477958a0a35e238ff2677386f0734e9233fcb272131", func := "countwheel/countwheellaw32.PlanMakes", spec := "planMakes", inPlace := ["internal/reflectlite.ValueOf", "(internal/reflectlite.Value).Type", "(internal/reflectlite.Value).IsNil", "internal/reflectlite.TypeOf", "(internal/reflectlite.Value).Elem", "(internal/reflectlite.Value).Set"], unfollowed := true, recurses := true, named := ["countwheel/fault.names", "errors.errorType"], apart := false, laid := [("errors.errorType", laid_errors_errorType), ("countwheel/fault.names", laid_countwheel_fault_names)] }
def PlanMakesSaid : Prop := planMakesRow.holds Tryd.pinned (OpenSpec.ofChange planMakesSpec)

/-- ITS FALSE NEIGHBOUR: 'it returns false'. Refute it at one input. -/
def planMakesWrong : ChangeSpec := { name := "planMakes", fn := fun _ => fun
  | [d1, d2, d3] => { results := [.lit (.bool false)], args := [d1, d2, d3] }
  | _ => none }
def PlanMakesWrongFalsely : Prop := planMakesRow.holds Tryd.pinned (OpenSpec.ofChange planMakesWrong)

/-- 'countwheellaw32.PlanBest': WHATEVER THE INPUT: true; the input reads as it did. -/
def planBestSpec : ChangeSpec := { name := "planBest", fn := fun _ => fun
  | [d1, d2] => { results := [.lit (.bool true)], args := [d1, d2] }
  | _ => none }
def planBestRow : OpenClaim := { program := "ytpjillclladjaaadoor", sum := "05408b266d6ffca9ebe2c477958a0a35e238ff2677386f0734e9233fcb272131", func := "countwheel/countwheellaw32.PlanBest", spec := "planBest", unfollowed := true, recurses := true, named := ["countwheel/fault.names"], apart := false, laid := [("countwheel/fault.names", laid_countwheel_fault_names)] }
def PlanBestSaid : Prop := planBestRow.holds Tryd.pinned (OpenSpec.ofChange planBestSpec)

/-- ITS FALSE NEIGHBOUR: 'it returns false'. Refute it at one input. -/
def planBestWrong : ChangeSpec := { name := "planBest", fn := fun _ => fun
  | [d1, d2] => { results := [.lit (.bool false)], args := [d1, d2] }
  | _ => none }
def PlanBestWrongFalsely : Prop := planBestRow.holds Tryd.pinned (OpenSpec.ofChange planBestWrong)

/-- 'countwheellaw32.PlanWords': WHATEVER THE INPUT: true; the input reads as it did. -/
def planWordsSpec : ChangeSpec := { name := "planWords", fn := fun _ => fun
  | [d1, d2] => { results := [.lit (.bool true)], args := [d1, d2] }
  | _ => none }
def planWordsRow : OpenClaim := { program := "ytpjillclladjaaadoor", sum := "05408b266d6ffca9ebe2c477958a0a35e238ff2677386f0734e9233fcb272131", func := "countwheel/countwheellaw32.PlanWords", spec := "planWords", unfollowed := true, recurses := true, named := ["countwheel/fault.names"], apart := false, laid := [("countwheel/fault.names", laid_countwheel_fault_names)] }
def PlanWordsSaid : Prop := planWordsRow.holds Tryd.pinned (OpenSpec.ofChange planWordsSpec)

/-- ITS FALSE NEIGHBOUR: 'it returns false'. Refute it at one input. -/
def planWordsWrong : ChangeSpec := { name := "planWords", fn := fun _ => fun
  | [d1, d2] => { results := [.lit (.bool false)], args := [d1, d2] }
  | _ => none }
def PlanWordsWrongFalsely : Prop := planWordsRow.holds Tryd.pinned (OpenSpec.ofChange planWordsWrong)

/-- 'countwheellaw33.ShiftBack': WHATEVER THE INPUT: true; the input reads as it did. -/
def shiftBackSpec : ChangeSpec := { name := "shiftBack", fn := fun _ => fun
  | [d1, d2] => { results := [.lit (.bool true)], args := [d1, d2] }
  | _ => none }
def shiftBackRow : OpenClaim := { program := "ytpjillclladjaaadoor", sum := "05408b266d6ffca9ebe2c477958a0a35e238ff2677386f0734e9233fcb272131", func := "countwheel/countwheellaw33.ShiftBack", spec := "shiftBack", unfollowed := true, recurses := true, named := ["countwheel/fault.names"], apart := false, laid := [("countwheel/fault.names", laid_countwheel_fault_names)] }
def ShiftBackSaid : Prop := shiftBackRow.holds Tryd.pinned (OpenSpec.ofChange shiftBackSpec)

/-- ITS FALSE NEIGHBOUR: 'it returns false'. Refute it at one input. -/
def shiftBackWrong : ChangeSpec := { name := "shiftBack", fn := fun _ => fun
  | [d1, d2] => { results := [.lit (.bool false)], args := [d1, d2] }
  | _ => none }
def ShiftBackWrongFalsely : Prop := shiftBackRow.holds Tryd.pinned (OpenSpec.ofChange shiftBackWrong)

/- THE SECOND FORM. 'bulk': how many values and letters a reading holds, each counted each time it is reached (what is shared counts as often as it is met; a slice's spare places count too). A statement '..UptoSaid' is the law's where the arguments, and the package variables that the reading takes, are together of bulk at most 1048576: NARROWER than '..Said'. Prove '..Said' where nothing that the law and all that it calls make is longer than what came in: it says more and counts as full. Else prove '..UptoSaid'. A law counts once. -/
mutual
def uptoBulk {H : Type} : DataW H → Nat
  | .lit (.string bytes) => bytes.length + 1
  | .lit _ => 1
  | .nil => 1
  | .ptr d => uptoBulk d + 1
  | .slice elems spare => uptoBulkAll elems + uptoBulkAll spare + 1
  | .agg parts => uptoBulkAll parts + 1
  | .iface _ d => uptoBulk d + 1
  | .map entries => uptoBulkEntries entries + 1
  | .held _ => 1
def uptoBulkAll {H : Type} : List (DataW H) → Nat
  | [] => 0
  | d :: r => uptoBulk d + uptoBulkAll r
def uptoBulkEntries {H : Type} : List (Lit × DataW H) → Nat
  | [] => 0
  | x :: r => uptoBulkEntry x + uptoBulkEntries r
def uptoBulkEntry {H : Type} : Lit × DataW H → Nat
  | (.string bytes, d) => bytes.length + uptoBulk d + 1
  | (_, d) => uptoBulk d + 1
 end
def uptoSmall : (H : Type) → List (DataW H) → Bool := fun _ ds => decide (uptoBulkAll ds ≤ 1048576)
def OpenSpec.upto (s : _root_.Go.ChangeSpec) : _root_.Go.OpenSpec := { _root_.Go.OpenSpec.ofChange s with cond := some uptoSmall }

/-- 'countwheellaw32.PlanMakes', WHERE WHAT IT READS IS OF BULK AT MOST 1048576: true; the input reads as it did. -/
def planMakesUptoRow : OpenClaim := { program := "ytpjillclladjaaadoor", sum := "05408b266d6ffca9ebe2c477958a0a35e238ff2677386f0734e9233fcb272131", func := "countwheel/countwheellaw32.PlanMakes", spec := "planMakes", inPlace := ["internal/reflectlite.ValueOf", "(internal/reflectlite.Value).Type", "(internal/reflectlite.Value).IsNil", "internal/reflectlite.TypeOf", "(internal/reflectlite.Value).Elem", "(internal/reflectlite.Value).Set"], unfollowed := true, recurses := true, named := ["countwheel/fault.names", "errors.errorType"], apart := false, laid := [("errors.errorType", laid_errors_errorType), ("countwheel/fault.names", laid_countwheel_fault_names)], narrowed := true }
def PlanMakesUptoSaid : Prop := planMakesUptoRow.holds Tryd.pinned (OpenSpec.upto planMakesSpec)

/-- 'countwheellaw32.PlanBest', WHERE WHAT IT READS IS OF BULK AT MOST 1048576: true; the input reads as it did. -/
def planBestUptoRow : OpenClaim := { program := "ytpjillclladjaaadoor", sum := "05408b266d6ffca9ebe2c477958a0a35e238ff2677386f0734e9233fcb272131", func := "countwheel/countwheellaw32.PlanBest", spec := "planBest", unfollowed := true, recurses := true, named := ["countwheel/fault.names"], apart := false, laid := [("countwheel/fault.names", laid_countwheel_fault_names)], narrowed := true }
def PlanBestUptoSaid : Prop := planBestUptoRow.holds Tryd.pinned (OpenSpec.upto planBestSpec)

/-- 'countwheellaw32.PlanWords', WHERE WHAT IT READS IS OF BULK AT MOST 1048576: true; the input reads as it did. -/
def planWordsUptoRow : OpenClaim := { program := "ytpjillclladjaaadoor", sum := "05408b266d6ffca9ebe2c477958a0a35e238ff2677386f0734e9233fcb272131", func := "countwheel/countwheellaw32.PlanWords", spec := "planWords", unfollowed := true, recurses := true, named := ["countwheel/fault.names"], apart := false, laid := [("countwheel/fault.names", laid_countwheel_fault_names)], narrowed := true }
def PlanWordsUptoSaid : Prop := planWordsUptoRow.holds Tryd.pinned (OpenSpec.upto planWordsSpec)

/-- 'countwheellaw33.ShiftBack', WHERE WHAT IT READS IS OF BULK AT MOST 1048576: true; the input reads as it did. -/
def shiftBackUptoRow : OpenClaim := { program := "ytpjillclladjaaadoor", sum := "05408b266d6ffca9ebe2c477958a0a35e238ff2677386f0734e9233fcb272131", func := "countwheel/countwheellaw33.ShiftBack", spec := "shiftBack", unfollowed := true, recurses := true, named := ["countwheel/fault.names"], apart := false, laid := [("countwheel/fault.names", laid_countwheel_fault_names)], narrowed := true }
def ShiftBackUptoSaid : Prop := shiftBackUptoRow.holds Tryd.pinned (OpenSpec.upto shiftBackSpec)

end Rows
end Go.Proofs.YtpjillclladjaaaDoor
