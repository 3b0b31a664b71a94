
/- Windows: the chapter's example, and what an error of Check is told as. Condition: the variables hold what the program lays there. -/

import Derived.Test.YtofcjkfaccdnjaaDoorWinD

namespace Go.Proofs.YtofcjkfaccdnjaaDoor.Win

open Go.RowKit Go.PlainAid Go.Proofs.YtofcjkfaccdnjaaDoor.Oct Go.Proofs.YtofcjkfaccdnjaaDoor.Flt Go.Proofs.YtofcjkfaccdnjaaDoor.Rdr Go.Proofs.YtofcjkfaccdnjaaDoor.Args

open Go.Proofs.YtofcjkfaccdnjaaDoor.Act (A3 actL flatA ActsAt I64 Wide)

set_option linter.unusedVariables false

set_option linter.unusedSimpArgs false

def exW : List A3 := [⟨0, 0, 4⟩, ⟨0, 3, 2⟩]
theorem ex_bad : chkW [0] 10 ⟨0, 0, 0⟩ 0 exW = (12, 1) := by decide
end Go.Proofs.YtofcjkfaccdnjaaDoor.Win
