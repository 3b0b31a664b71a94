
/- That faults stay what they are where their wraps' blocks stay as they are. It says nothing of what the program does. No condition. -/

import Derived.Test.YteefmdelacihfaaFltA

import Derived.Laws.StructEq

namespace Go.Proofs.Yteefmdelacihfaa.Flt

open Go.RowKit Go.PlainAid

end Go.Proofs.Yteefmdelacihfaa.Flt
