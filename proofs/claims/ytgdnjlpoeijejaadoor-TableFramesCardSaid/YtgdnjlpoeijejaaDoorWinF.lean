
/- Windows: the chapter's example, and what an error of Check is told as. Condition: the variables hold what the program lays there. -/

import Derived.Test.YtgdnjlpoeijejaaDoorWinD

namespace Go.Proofs.YtgdnjlpoeijejaaDoor.Win

open Go.RowKit Go.PlainAid Go.Proofs.YtgdnjlpoeijejaaDoor.Oct Go.Proofs.YtgdnjlpoeijejaaDoor.Flt Go.Proofs.YtgdnjlpoeijejaaDoor.Rdr Go.Proofs.YtgdnjlpoeijejaaDoor.Args

open Go.Proofs.YtgdnjlpoeijejaaDoor.Act (A3 actL flatA ActsAt I64 Wide)

set_option linter.unusedVariables false

set_option linter.unusedSimpArgs false

theorem of_wrongA {x : Value} {k : Nat} {a : Int} (w : World) (hw : WrongA w x k a) :
    Calls Tryd.prog 7 #[x] w fun e w' => e = .returned (fltV k 0 a) ∧ Below w.heap.size w w' := by
  rcases hw with ⟨rfl, rfl, rfl⟩ | ⟨_, _, h⟩
  · exact of_nil w
  · exact of_any x [(false, a)] k w h (by simp)
def exW : List A3 := [⟨0, 0, 4⟩, ⟨0, 3, 2⟩]
theorem ex_bad : chkW [0] 10 ⟨0, 0, 0⟩ 0 exW = (12, 1) := by decide
end Go.Proofs.YtgdnjlpoeijejaaDoor.Win
