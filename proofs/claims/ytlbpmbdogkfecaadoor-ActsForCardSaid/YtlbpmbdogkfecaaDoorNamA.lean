
/- What package name's Right tells of a text, and the document's: both by one reckoning. Condition: the text takes no more than what the model lets a text take. -/

import Derived.Test.YtlbpmbdogkfecaaDoorOctA

import Derived.Lib.Hide

namespace Go.Proofs.YtlbpmbdogkfecaaDoor.Nam

open Go.RowKit Go.PlainAid Go.Proofs.YtlbpmbdogkfecaaDoor.Oct

set_option linter.unusedVariables false

def letB (c : Int) : Bool := decide (65 ≤ c) && decide (c ≤ 90)
def digB (c : Int) : Bool := decide (48 ≤ c) && decide (c ≤ 57)
/-- May the byte stand in a name, as the first one or behind it? -/
def stdB (c : Int) (first : Bool) : Bool := letB c || (!first && (digB c || (c == 95)))
/-- Do all bytes of s below k stand in a name? -/
def allB (s : ByteArray) (k : Nat) : Bool := (List.range k).all fun i => stdB (bt s i) (i == 0)
def rightB (s : ByteArray) : Bool := decide (1 ≤ s.size) && decide (s.size ≤ 16) && allB s s.size
theorem all_succ (s : ByteArray) (k : Nat) : allB s (k + 1) = (allB s k && stdB (bt s k) (k == 0)) := by
  unfold allB; rw [List.range_succ, List.all_append]; simp
theorem all_false {s : ByteArray} {k m : Nat} (h : allB s k = false) (hm : k ≤ m) : allB s m = false := by
  induction m with
  | zero => obtain rfl : k = 0 := by omega
            exact h
  | succ m ih =>
    by_cases e : k = m + 1
    · rw [← e]; exact h
    · rw [all_succ, ih (by omega)]; rfl

theorem right_out {s : ByteArray} (h : ¬ (1 ≤ s.size ∧ s.size ≤ 16)) : rightB s = false := by
  unfold rightB; simp; omega
theorem right_in {s : ByteArray} (h : 1 ≤ s.size ∧ s.size ≤ 16) : rightB s = allB s s.size := by
  unfold rightB; simp [h.1, h.2]
theorem std_int (c : Int) (k : Nat) : stdB c ((k : Int) == 0) = stdB c (k == 0) := by
  have e : ((k : Int) == 0) = (k == 0) := by rw [Bool.eq_iff_iff]; simp
  rw [e]
end Go.Proofs.YtlbpmbdogkfecaaDoor.Nam
