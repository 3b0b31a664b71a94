
/- What package fault's In, At, Named do, and the document's Named. Condition: the table of names holds what the program lays there. -/

import Derived.Test.YteefmdelacihfaaFltA

namespace Go.Proofs.Yteefmdelacihfaa.Flt

open Go.RowKit Go.PlainAid

/-- No name among the first k is the text. -/
def NoneYet (s : ByteArray) (k : Nat) : Prop := ∀ j, 1 ≤ j → j < k → nm j ≠ s
theorem none_step {s : ByteArray} {k : Nat} (h : NoneYet s k) (hk : nm k ≠ s) : NoneYet s (k + 1) := by
  intro j h1 h2
  rcases Nat.lt_or_ge j k with hl | hl
  · exact h j h1 hl
  · obtain rfl : j = k := by omega
    exact hk
def NPost (s : ByteArray) (w : World) (e : Ending) (w' : World) : Prop := ∃ r : Nat, IsNamed s r ∧ e = .returned (.tuple #[.int .i64 r, .bool (decide (0 < r))]) ∧ w = w'
theorem empty_of (s : ByteArray) (h : s.toList.isEmpty = true) : s = nm 0 := by
  rw [nm_zero]
  rw [List.isEmpty_iff, toList_data] at h
  cases s with
  | mk d => simp only [Array.toList_eq_nil_iff] at h; rw [h]

def RNPost (s : ByteArray) (w : World) (e : Ending) (w' : World) : Prop := ∃ r : Nat, IsNamed s r ∧ e = .returned (.int .i64 r) ∧ Below w.heap.size w w'
end Go.Proofs.Yteefmdelacihfaa.Flt
