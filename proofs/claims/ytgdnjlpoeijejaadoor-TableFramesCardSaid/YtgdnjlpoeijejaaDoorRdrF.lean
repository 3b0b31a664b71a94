
/- The chapter's example of package reader, as the laws ask it. Condition: the table of names holds what the program lays there. -/

import Derived.Test.YtgdnjlpoeijejaaDoorRdrE

namespace Go.Proofs.YtgdnjlpoeijejaaDoor.Rdr

open Go.RowKit Go.PlainAid Go.Proofs.YtgdnjlpoeijejaaDoor.Flt Go.Proofs.YtgdnjlpoeijejaaDoor.Oct

set_option linter.unusedVariables false

theorem ok_fail {t : St} (h : Ok t) (k a : Int) : Ok (failS t k a) := by unfold failS; split <;> exact h
theorem ok_num {t : St} (h : Ok t) (n : Nat) : Ok (numS t n) := by
  unfold numS
  split
  · split
    · rename_i hg
      refine ⟨?_, h.2⟩
      unfold getB at hg; simp at hg
      show t.p + n ≤ t.s.size; omega
    · exact ok_fail h _ _
  · exact h
theorem ok_txt {t : St} (h : Ok t) (n : Int) : Ok (txtS t n) := by
  unfold txtS
  split
  · split
    · rename_i hp; exact ⟨hp, h.2⟩
    · exact ok_fail h _ _
  · exact h
def awB : ByteArray := ⟨#[1, 2, 3]⟩
theorem aw_b : getB awB (0 : Nat) (2 : Nat) = true := by decide +kernel
theorem aw_v : getV awB (0 : Nat) (2 : Nat) = 258 := by decide +kernel
theorem aw_b2 : getB awB (2 : Nat) (2 : Nat) = false := by decide +kernel
theorem aw_1 : numV ⟨awB, 0, 2, 0, 0, 0⟩ 2 = 258 := by unfold numV; rw [if_pos rfl]; exact aw_v
theorem aw_2 : numS ⟨awB, 0, 2, 0, 0, 0⟩ 2 = ⟨awB, 2, 2, 0, 0, 0⟩ := by
  unfold numS; rw [if_pos rfl]; simp only []; rw [aw_b]; rfl
theorem aw_3 : numV ⟨awB, 2, 2, 0, 0, 0⟩ 2 = 0 := by unfold numV getV; rw [if_pos rfl]; simp only []; rw [aw_b2]; rfl
theorem aw_4 : numS ⟨awB, 2, 2, 0, 0, 0⟩ 2 = ⟨awB, 2, 2, 2, 2, 2⟩ := by
  unfold numS; rw [if_pos rfl]; simp only []; rw [aw_b2]; rfl
theorem aw_ok (p : Nat) (s : Int) (hp : p ≤ 3) : Ok ⟨awB, p, s, 0, 0, 0⟩ := ⟨hp, by show 3 ≤ 1099511627776; omega⟩

end Go.Proofs.YtgdnjlpoeijejaaDoor.Rdr
