
/- What the document's Get of a name reads: the same as the program's. No condition. -/

import Derived.Test.YtfomkhhkcohdlaaDoorNamC

namespace Go.Proofs.YtfomkhhkcohdlaaDoor.Nam

open Go.RowKit Go.PlainAid Go.Proofs.YtfomkhhkcohdlaaDoor.Oct Go.Proofs.YtfomkhhkcohdlaaDoor.Flt Go.Proofs.YtfomkhhkcohdlaaDoor.Rdr

set_option linter.unusedVariables false

theorem len_rd (t : St) : (rdC t).size = 6 := rfl
end Go.Proofs.YtfomkhhkcohdlaaDoor.Nam
