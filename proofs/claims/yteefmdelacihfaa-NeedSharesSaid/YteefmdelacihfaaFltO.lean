
/- What fault's outermost does: of nil nothing, of a class or a wrap that itself; nothing that was there has changed. Condition: the error is one of these. -/

import Derived.Test.YteefmdelacihfaaFltAs

namespace Go.Proofs.Yteefmdelacihfaa.Flt

open Go.RowKit Go.PlainAid

theorem chain_below (w : World) (o1 o2 o3 o4 o5 : Obj) : Below w.heap.size w (((((w.alloc o5).alloc o1).alloc o2).alloc o3).alloc o4) :=
  Below.alloc (Below.alloc (Below.alloc (Below.alloc (Below.alloc (Below.refl _ _) (Nat.le_refl _) _) (by simp) _) (by simp; omega) _) (by simp; omega) _) (by simp; omega) _

end Go.Proofs.Yteefmdelacihfaa.Flt
