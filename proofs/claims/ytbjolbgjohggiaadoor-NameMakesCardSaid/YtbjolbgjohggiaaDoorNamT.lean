
/- Out of what a row lists of the library's table of powers of ten: that the table holds them. No condition but that the table is listed as the library lays it. -/

import Derived.Test.YtbjolbgjohggiaaDoorNamF

import Derived.LaidLaws

import Derived.LaidHandle

import Derived.Lib.LaidTab

import Derived.Stop.LaidErr

import Derived.ChangeArms

namespace Go.Proofs.YtbjolbgjohggiaaDoor.Nam

open Go.RowKit

theorem gTab : Tryd.prog.globalNamed "internal/strconv.uint64pow10" = some 3 := by kernel_rfl
theorem tTab : (Tryd.prog.globals[3]?).map (·.type) = some 125 := by kernel_rfl
theorem tab_of {D : DataW Unit} {rest : List (String × DataW Unit)} {W : World} (hD : D = Lib.tabData .u64 Lib.pow10Tab) (h : laidMet Tryd.prog (("internal/strconv.uint64pow10", D) :: rest) W) : Tab W := by
  subst hD
  exact Lib.tabIs_of_head gTab tTab Tryd.underlying125 Tryd.underlying41 (by kernel_rfl) (by kernel_rfl) h
end Go.Proofs.YtbjolbgjohggiaaDoor.Nam
