
/- Out of what a row lists of header's two variables: that they hold how few and how many there may be. No condition but that they are listed as the program lays them. -/

import Derived.Test.YteadednglodgpaaDoorFltL

import Derived.Test.YteadednglodgpaaDoorHdrA

namespace Go.Proofs.YteadednglodgpaaDoor.Hdr

open Go.RowKit Go.Proofs.YteadednglodgpaaDoor.Flt

theorem gFew : Tryd.prog.globalNamed "countwheel/header.fewest" = some 0 := by kernel_rfl
theorem gMost : Tryd.prog.globalNamed "countwheel/header.most" = some 1 := by kernel_rfl
theorem tFew : (Tryd.prog.globals[0]?).map (·.type) = some 93 := by kernel_rfl
theorem tMost : (Tryd.prog.globals[1]?).map (·.type) = some 93 := by kernel_rfl
theorem few_of {D : DataW Unit} {rest : List (String × DataW Unit)} {W : World} (hD : D = Lib.tabData .i64 fewL) (h : laidMet Tryd.prog (("countwheel/header.fewest", D) :: rest) W) : Lib.TabIs Tryd.prog W "countwheel/header.fewest" .i64 fewL := by
  subst hD
  exact Lib.tabIs_of_head gFew tFew Tryd.underlying93 Tryd.underlying3 (by kernel_rfl) (by kernel_rfl) h
theorem most_of {D : DataW Unit} {rest : List (String × DataW Unit)} {W : World} (hD : D = Lib.tabData .i64 mostL) (h : laidMet Tryd.prog (("countwheel/header.most", D) :: rest) W) : Lib.TabIs Tryd.prog W "countwheel/header.most" .i64 mostL := by
  subst hD
  exact Lib.tabIs_of_head gMost tMost Tryd.underlying93 Tryd.underlying3 (by kernel_rfl) (by kernel_rfl) h
theorem laid_of {W : World} (hn : Names W) (h1 : Lib.TabIs Tryd.prog W "countwheel/header.fewest" .i64 fewL) (h2 : Lib.TabIs Tryd.prog W "countwheel/header.most" .i64 mostL) : Laid W :=
  ⟨hn, fun i hi => h1.cell gFew i (by simpa [fewL] using hi), fun i hi => h2.cell gMost i (by simpa [mostL] using hi)⟩
end Go.Proofs.YteadednglodgpaaDoor.Hdr
