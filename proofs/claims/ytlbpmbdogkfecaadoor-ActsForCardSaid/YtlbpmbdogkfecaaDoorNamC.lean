
/- What package name's Get reads, and the document's: the same. Condition: the table of names holds what the program lays there. -/

import Derived.Test.YtlbpmbdogkfecaaDoorNamB

import Derived.Test.YtlbpmbdogkfecaaDoorRdrC

namespace Go.Proofs.YtlbpmbdogkfecaaDoor.Nam

open Go.RowKit Go.PlainAid Go.Proofs.YtlbpmbdogkfecaaDoor.Oct Go.Proofs.YtlbpmbdogkfecaaDoor.Flt Go.Proofs.YtlbpmbdogkfecaaDoor.Rdr

set_option linter.unusedVariables false

theorem txt_size (t : St) (n : Int) (h : Ok t) : (txtV t n).size ≤ maxLen := by
  unfold txtV
  split
  · have := h.2; rw [ByteArray.size_extract]; unfold maxLen; omega
  · show 0 ≤ _; omega
/-- The next name. -/
def nmS (t : St) : St :=
  if (numS t 1).k ≠ 0 then numS t 1 else if numV t 1 = 0 ∨ 16 < numV t 1 then failS (numS t 1) 7 t.p
  else if (txtS (numS t 1) (numV t 1)).k ≠ 0 then txtS (numS t 1) (numV t 1) else if rightB (txtV (numS t 1) (numV t 1)) then txtS (numS t 1) (numV t 1) else failS (txtS (numS t 1) (numV t 1)) 7 t.p
def nmV (t : St) : ByteArray :=
  if (numS t 1).k = 0 ∧ ¬ (numV t 1 = 0 ∨ 16 < numV t 1) ∧ (txtS (numS t 1) (numV t 1)).k = 0 ∧ rightB (txtV (numS t 1) (numV t 1)) = true then txtV (numS t 1) (numV t 1) else ⟨#[]⟩

end Go.Proofs.YtlbpmbdogkfecaaDoor.Nam
