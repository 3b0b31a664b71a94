
/- What package reader's numbers and texts are, and what the document's are: both by one reckoning. Condition: the table of names holds what the program lays there. -/

import Derived.Test.YtgdnjlpoeijejaaDoorRdrB

import Derived.Test.YtgdnjlpoeijejaaDoorShelf

namespace Go.Proofs.YtgdnjlpoeijejaaDoor.Rdr

open Go.RowKit Go.PlainAid Go.Proofs.YtgdnjlpoeijejaaDoor.Flt Go.Proofs.YtgdnjlpoeijejaaDoor.Oct

set_option linter.unusedVariables false

theorem Just.drewN {g : Nat} {a w : World} (h : Just g a w) (n : Nat) : Just g a (w.drewN n) := ⟨h.os, h.tape, h.output, h.size, h.block⟩
theorem names_drewN {w : World} (h : Names w) (n : Nat) : Names (w.drewN n) := h
/-- A reader that may be: it stands within its text. -/
def Ok (t : St) : Prop := t.p ≤ t.s.size ∧ t.s.size ≤ 1099511627776
/-- The next number of n bytes. -/
def numS (t : St) (n : Nat) : St := if t.k = 0 then (if getB t.s t.p n then { t with p := t.p + n } else failS t 2 t.p) else t
def numV (t : St) (n : Nat) : Nat := if t.k = 0 then getV t.s t.p n else 0
theorem fail_k {t : St} (h : t.k = 0) (a : Int) : (failS t 2 a).k = 2 := by
  have e := fail_yes (k := 2) (a := a) h (by omega) (by omega)
  rw [show (2 : Int) = ((2 : Nat) : Int) from rfl, e]

end Go.Proofs.YtgdnjlpoeijejaaDoor.Rdr
