
/- What package fault's calls do that make an error or tell a name: Name, Named, New, In, At, First; and the document's names. Condition: the table of names holds what the program lays there. -/

import Derived.Test.YteefmdelacihfaaProg

import Derived.Test.YteefmdelacihfaaFltM

import Derived.Deep.RegionWith

import Derived.WalkLawsBesides

namespace Go.Proofs.Yteefmdelacihfaa.Flt

open Go.RowKit Go.PlainAid

theorem ret_str {a b : ByteArray} (h : a = b) : Ending.returned (.string a) = .returned (.string b) := by rw [h]
end Go.Proofs.Yteefmdelacihfaa.Flt
