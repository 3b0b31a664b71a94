
/- What the calls of package octet that only reckon (width, Fits, Bit, Count, Signed), and the document's answers for them (Size, power, Fits, Bit, Count, Signed), return, for every argument. No condition but that the arguments fit their kinds. -/

import Derived.Test.YtgdnjlpoeijejaaDoorProg

import Derived.Test.YtgdnjlpoeijejaaDoorOctM

import Derived.WalkKit

import Derived.Lib.Hide

namespace Go.Proofs.YtgdnjlpoeijejaaDoor.Oct

open Go.RowKit

end Go.Proofs.YtgdnjlpoeijejaaDoor.Oct
