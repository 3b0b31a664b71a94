
/- Out of what a row lists: that the table of fault's names and the library's table of powers of ten hold what is laid there. No condition but that they are listed so. -/

import Derived.Test.YtkikghmigjkjiaaDoorFltL

import Derived.Test.YtkikghmigjkjiaaDoorStaC

import Derived.LaidLaws

import Derived.LaidHandle

import Derived.Lib.LaidTab

import Derived.Stop.LaidErr

import Derived.ChangeArms

namespace Go.Proofs.YtkikghmigjkjiaaDoor.Sta

open Go.RowKit

theorem gTab : Tryd.prog.globalNamed "internal/strconv.uint64pow10" = some 2 := by kernel_rfl
theorem tTab : (Tryd.prog.globals[2]?).map (·.type) = some 111 := by kernel_rfl
theorem tab_of {D : DataW Unit} {rest : List (String × DataW Unit)} {W : World} (hD : D = Lib.tabData .u64 Lib.pow10Tab) (h : laidMet Tryd.prog (("internal/strconv.uint64pow10", D) :: rest) W) : Tab W := by
  subst hD
  exact Lib.tabIs_of_head gTab tTab Tryd.underlying111 Tryd.underlying23 (by kernel_rfl) (by kernel_rfl) h
end Go.Proofs.YtkikghmigjkjiaaDoor.Sta
