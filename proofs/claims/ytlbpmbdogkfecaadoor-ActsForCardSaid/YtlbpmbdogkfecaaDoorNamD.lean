
/- What the document's Get of a name reads: the same as the program's. No condition. -/

import Derived.Test.YtlbpmbdogkfecaaDoorNamC

namespace Go.Proofs.YtlbpmbdogkfecaaDoor.Nam

open Go.RowKit Go.PlainAid Go.Proofs.YtlbpmbdogkfecaaDoor.Oct Go.Proofs.YtlbpmbdogkfecaaDoor.Flt Go.Proofs.YtlbpmbdogkfecaaDoor.Rdr

set_option linter.unusedVariables false

theorem len_rd (t : St) : (rdC t).size = 6 := rfl
end Go.Proofs.YtlbpmbdogkfecaaDoor.Nam
