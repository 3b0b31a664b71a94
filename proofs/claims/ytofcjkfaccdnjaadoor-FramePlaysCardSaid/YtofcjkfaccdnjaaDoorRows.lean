/-
  NARROWER THAN 'FOR EVERY INPUT', by the rows' own cells (each row's printed sentence says how): FramePlays: laid · FrameWords: laid · FrameHalts: laid.
  DERIVED. THE GIVEN ROWS OF THIS SEAT. 3 by the template 'for every input the law returns true; each argument reads behind the call as it read before'; 0 by the template 'total and deterministic' (their statements: YtofcjkfaccdnjaaDoorTotals.lean).
  GIVEN WITH THE SEED: the statements are not yours to turn. If you find one false, say at which input.
  Laid BY PROGRAM, IN A SANDBOX (cutbox-rows.mjs): the forced cells as the released guide's own fill.sh prints them over the translation 0928c2e6da6c70db… (all of the seat's roots in one cut). By AI agents, Wed Nov 11 2026. No macro, syntax, notation, axiom, sorry.
-/
import Derived.Test.YtofcjkfaccdnjaaDoorChecked
import GoSem.Claim
import GoSem.ClaimJoined
import GoSem.ClaimMapViews
import Derived.JoinedTies
import Derived.KernelRfl
namespace Go.Proofs.YtofcjkfaccdnjaaDoor
/- THE CELL 'sum', in the pinned program and in every row, IS THE sha256 OF THE DUMP (.gsa) THAT YtofcjkfaccdnjaaDoorProg.lean LOADS. Nothing in Lean hashes anything: it is a label: what it is worth is what the hold of that sum in a sandbox is worth. -/
noncomputable def Tryd.pinned : Pinned := { name := "ytofcjkfaccdnjaadoor", sum := "0928c2e6da6c70dbe5f86ddcfb12ef6da82fd1ae94befd0835fec389a704b7cd", checked := Tryd.checked }
namespace Rows
def none {H : Type} : Left H := { results := [], args := [] }

/- WHAT THE LISTED PACKAGE-LEVEL VARIABLES READ AS WHEN THE CALL BEGINS. Each datum BY PROGRAM (the guide's laid-datum.mjs) off the statement by which the dump's own 'gosem.cut.vars' lays the variable. In a bare row this is a premise. The card (YtofcjkfaccdnjaaDoorCards.lean) ties it to the program's text. -/
def laid_countwheel_fault_names {H : Type} : DataW H := .agg [.lit (.string []), .lit (.string [97, 114, 103, 117, 109, 101, 110, 116]), .lit (.string [115, 104, 111, 114, 116]), .lit (.string [109, 97, 103, 105, 99]), .lit (.string [108, 101, 110, 103, 116, 104]), .lit (.string [115, 117, 109]), .lit (.string [102, 111, 114, 109]), .lit (.string [110, 97, 109, 101]), .lit (.string [109, 97, 110, 121]), .lit (.string [111, 114, 100, 101, 114]), .lit (.string [114, 101, 102, 101, 114, 101, 110, 99, 101]), .lit (.string [119, 105, 110, 100, 111, 119]), .lit (.string [111, 118, 101, 114, 108, 97, 112]), .lit (.string [112, 101, 114, 105, 111, 100]), .lit (.string [98, 117, 100, 103, 101, 116]), .lit (.string [112, 97, 105, 114]), .lit (.string [104, 97, 108, 116]), .lit (.string [115, 116, 97, 116, 101]), .lit (.string [114, 97, 110, 103, 101])]

/-- 'countwheellaw18.FramePlays': WHATEVER THE INPUT: true; the input reads as it did. -/
def framePlaysSpec : ChangeSpec := { name := "framePlays", fn := fun _ => fun
  | [d1, d2, d3, d4, d5] => { results := [.lit (.bool true)], args := [d1, d2, d3, d4, d5] }
  | _ => none }
def framePlaysRow : OpenClaim := { program := "ytofcjkfaccdnjaadoor", sum := "0928c2e6da6c70dbe5f86ddcfb12ef6da82fd1ae94befd0835fec389a704b7cd", func := "countwheel/countwheellaw18.FramePlays", spec := "framePlays", unfollowed := true, recurses := true, named := ["countwheel/fault.names"], apart := false, laid := [("countwheel/fault.names", laid_countwheel_fault_names)] }
def FramePlaysSaid : Prop := framePlaysRow.holds Tryd.pinned (OpenSpec.ofChange framePlaysSpec)

/-- ITS FALSE NEIGHBOUR: 'it returns false'. Refute it at one input. -/
def framePlaysWrong : ChangeSpec := { name := "framePlays", fn := fun _ => fun
  | [d1, d2, d3, d4, d5] => { results := [.lit (.bool false)], args := [d1, d2, d3, d4, d5] }
  | _ => none }
def FramePlaysWrongFalsely : Prop := framePlaysRow.holds Tryd.pinned (OpenSpec.ofChange framePlaysWrong)

/-- 'countwheellaw18.FrameWords': WHATEVER THE INPUT: true; the input reads as it did. -/
def frameWordsSpec : ChangeSpec := { name := "frameWords", fn := fun _ => fun
  | [d1, d2, d3] => { results := [.lit (.bool true)], args := [d1, d2, d3] }
  | _ => none }
def frameWordsRow : OpenClaim := { program := "ytofcjkfaccdnjaadoor", sum := "0928c2e6da6c70dbe5f86ddcfb12ef6da82fd1ae94befd0835fec389a704b7cd", func := "countwheel/countwheellaw18.FrameWords", spec := "frameWords", unfollowed := true, recurses := true, named := ["countwheel/fault.names"], apart := false, laid := [("countwheel/fault.names", laid_countwheel_fault_names)] }
def FrameWordsSaid : Prop := frameWordsRow.holds Tryd.pinned (OpenSpec.ofChange frameWordsSpec)

/-- ITS FALSE NEIGHBOUR: 'it returns false'. Refute it at one input. -/
def frameWordsWrong : ChangeSpec := { name := "frameWords", fn := fun _ => fun
  | [d1, d2, d3] => { results := [.lit (.bool false)], args := [d1, d2, d3] }
  | _ => none }
def FrameWordsWrongFalsely : Prop := frameWordsRow.holds Tryd.pinned (OpenSpec.ofChange frameWordsWrong)

/-- 'countwheellaw18.FrameHalts': WHATEVER THE INPUT: true; the input reads as it did. -/
def frameHaltsSpec : ChangeSpec := { name := "frameHalts", fn := fun _ => fun
  | [d1, d2, d3, d4] => { results := [.lit (.bool true)], args := [d1, d2, d3, d4] }
  | _ => none }
def frameHaltsRow : OpenClaim := { program := "ytofcjkfaccdnjaadoor", sum := "0928c2e6da6c70dbe5f86ddcfb12ef6da82fd1ae94befd0835fec389a704b7cd", func := "countwheel/countwheellaw18.FrameHalts", spec := "frameHalts", unfollowed := true, recurses := true, named := ["countwheel/fault.names"], apart := false, laid := [("countwheel/fault.names", laid_countwheel_fault_names)] }
def FrameHaltsSaid : Prop := frameHaltsRow.holds Tryd.pinned (OpenSpec.ofChange frameHaltsSpec)

/-- ITS FALSE NEIGHBOUR: 'it returns false'. Refute it at one input. -/
def frameHaltsWrong : ChangeSpec := { name := "frameHalts", fn := fun _ => fun
  | [d1, d2, d3, d4] => { results := [.lit (.bool false)], args := [d1, d2, d3, d4] }
  | _ => none }
def FrameHaltsWrongFalsely : Prop := frameHaltsRow.holds Tryd.pinned (OpenSpec.ofChange frameHaltsWrong)

/- THE SECOND FORM. 'bulk': how many values and letters a reading holds, each counted each time it is reached (what is shared counts as often as it is met; a slice's spare places count too). A statement '..UptoSaid' is the law's where the arguments, and the package variables that the reading takes, are together of bulk at most 1048576: NARROWER than '..Said'. Prove '..Said' where nothing that the law and all that it calls make is longer than what came in: it says more and counts as full. Else prove '..UptoSaid'. A law counts once. -/
mutual
def uptoBulk {H : Type} : DataW H → Nat
  | .lit (.string bytes) => bytes.length + 1
  | .lit _ => 1
  | .nil => 1
  | .ptr d => uptoBulk d + 1
  | .slice elems spare => uptoBulkAll elems + uptoBulkAll spare + 1
  | .agg parts => uptoBulkAll parts + 1
  | .iface _ d => uptoBulk d + 1
  | .map entries => uptoBulkEntries entries + 1
  | .held _ => 1
def uptoBulkAll {H : Type} : List (DataW H) → Nat
  | [] => 0
  | d :: r => uptoBulk d + uptoBulkAll r
def uptoBulkEntries {H : Type} : List (Lit × DataW H) → Nat
  | [] => 0
  | x :: r => uptoBulkEntry x + uptoBulkEntries r
def uptoBulkEntry {H : Type} : Lit × DataW H → Nat
  | (.string bytes, d) => bytes.length + uptoBulk d + 1
  | (_, d) => uptoBulk d + 1
 end
def uptoSmall : (H : Type) → List (DataW H) → Bool := fun _ ds => decide (uptoBulkAll ds ≤ 1048576)
def OpenSpec.upto (s : _root_.Go.ChangeSpec) : _root_.Go.OpenSpec := { _root_.Go.OpenSpec.ofChange s with cond := some uptoSmall }

/-- 'countwheellaw18.FramePlays', WHERE WHAT IT READS IS OF BULK AT MOST 1048576: true; the input reads as it did. -/
def framePlaysUptoRow : OpenClaim := { program := "ytofcjkfaccdnjaadoor", sum := "0928c2e6da6c70dbe5f86ddcfb12ef6da82fd1ae94befd0835fec389a704b7cd", func := "countwheel/countwheellaw18.FramePlays", spec := "framePlays", unfollowed := true, recurses := true, named := ["countwheel/fault.names"], apart := false, laid := [("countwheel/fault.names", laid_countwheel_fault_names)], narrowed := true }
def FramePlaysUptoSaid : Prop := framePlaysUptoRow.holds Tryd.pinned (OpenSpec.upto framePlaysSpec)

/-- 'countwheellaw18.FrameWords', WHERE WHAT IT READS IS OF BULK AT MOST 1048576: true; the input reads as it did. -/
def frameWordsUptoRow : OpenClaim := { program := "ytofcjkfaccdnjaadoor", sum := "0928c2e6da6c70dbe5f86ddcfb12ef6da82fd1ae94befd0835fec389a704b7cd", func := "countwheel/countwheellaw18.FrameWords", spec := "frameWords", unfollowed := true, recurses := true, named := ["countwheel/fault.names"], apart := false, laid := [("countwheel/fault.names", laid_countwheel_fault_names)], narrowed := true }
def FrameWordsUptoSaid : Prop := frameWordsUptoRow.holds Tryd.pinned (OpenSpec.upto frameWordsSpec)

/-- 'countwheellaw18.FrameHalts', WHERE WHAT IT READS IS OF BULK AT MOST 1048576: true; the input reads as it did. -/
def frameHaltsUptoRow : OpenClaim := { program := "ytofcjkfaccdnjaadoor", sum := "0928c2e6da6c70dbe5f86ddcfb12ef6da82fd1ae94befd0835fec389a704b7cd", func := "countwheel/countwheellaw18.FrameHalts", spec := "frameHalts", unfollowed := true, recurses := true, named := ["countwheel/fault.names"], apart := false, laid := [("countwheel/fault.names", laid_countwheel_fault_names)], narrowed := true }
def FrameHaltsUptoSaid : Prop := frameHaltsUptoRow.holds Tryd.pinned (OpenSpec.upto frameHaltsSpec)

end Rows
end Go.Proofs.YtofcjkfaccdnjaaDoor
