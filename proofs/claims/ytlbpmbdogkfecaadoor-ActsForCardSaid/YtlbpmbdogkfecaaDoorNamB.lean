
/- What the document's Right tells of a text: the same reckoning as the program's; and the chapter's examples of package name. Condition: the text takes no more than what the model lets a text take. -/

import Derived.Test.YtlbpmbdogkfecaaDoorNamA

namespace Go.Proofs.YtlbpmbdogkfecaaDoor.Nam

open Go.RowKit Go.PlainAid Go.Proofs.YtlbpmbdogkfecaaDoor.Oct

set_option linter.unusedVariables false

theorem rright_first {s : ByteArray} (h1 : 1 ≤ s.size) (h2 : s.size ≤ 16) (h : letB (bt s 0) = false) : rightB s = false := by
  rw [right_in ⟨h1, h2⟩]
  refine all_false (k := 1) ?_ h1
  rw [all_succ]
  unfold stdB; rw [h]; rfl
theorem empty_iff {s : ByteArray} (h : s.size = 0) : s.toList.isEmpty = true := by
  have : s.data = #[] := by
    apply Array.eq_empty_of_size_eq_zero; exact h
  rw [ByteArray.toList_eq, this]; rfl
theorem nonempty_iff {s : ByteArray} (h : 1 ≤ s.size) : s.toList.isEmpty = false := by
  rw [ByteArray.toList_eq]
  cases hh : s.data.toList.isEmpty with
  | false => rfl
  | true =>
    rw [List.isEmpty_iff] at hh
    have : s.size = 0 := by show s.data.size = 0; rw [← Array.length_toList, hh]; rfl
    omega
theorem aw_yes : rightB ⟨#[78, 65, 86, 95, 49]⟩ = true := by decide +kernel
theorem aw_no : rightB ⟨#[49, 78, 65, 86]⟩ = false := by decide +kernel
end Go.Proofs.YtlbpmbdogkfecaaDoor.Nam
