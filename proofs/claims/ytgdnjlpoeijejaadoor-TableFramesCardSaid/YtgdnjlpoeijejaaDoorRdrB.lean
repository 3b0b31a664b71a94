
/- What package reader's Fail and Need do to a reader: the first that is wrong is kept. Condition: the table of names holds what the program lays there. -/

import Derived.Test.YtgdnjlpoeijejaaDoorRdrA

namespace Go.Proofs.YtgdnjlpoeijejaaDoor.Rdr

open Go.RowKit Go.PlainAid Go.Proofs.YtgdnjlpoeijejaaDoor.Flt

def failS (t : St) (k a : Int) : St := if t.k = 0 ∧ 1 ≤ k ∧ k ≤ 18 then { t with k := k.toNat, fs := t.sec, fa := a } else t
theorem fail_had {t : St} {k a : Int} (h : t.k ≠ 0) : failS t k a = t := by unfold failS; rw [if_neg (by omega)]
theorem fail_no {t : St} {k a : Int} (h : k < 1 ∨ 18 < k) : failS t k a = t := by unfold failS; rw [if_neg (by omega)]
theorem fail_yes {t : St} {k : Nat} {a : Int} (h0 : t.k = 0) (h1 : 1 ≤ k) (h2 : k ≤ 18) : failS t k a = { t with k := k, fs := t.sec, fa := a } := by
  unfold failS; rw [if_pos (by omega)]; simp
theorem err_of {w : World} {x : Value} {ws : List (Bool × Int)} {k : Int} (h : IsFault w x ws k) : ∃ u y, x = .iface u y := by
  cases ws with
  | nil => exact ⟨_, _, h⟩
  | cons a ws => obtain ⟨g, y, e, _⟩ := h; exact ⟨_, _, e⟩
end Go.Proofs.YtgdnjlpoeijejaaDoor.Rdr
