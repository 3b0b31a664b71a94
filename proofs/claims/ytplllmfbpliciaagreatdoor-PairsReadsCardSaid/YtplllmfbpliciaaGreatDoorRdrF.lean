
/- The chapter's example of package reader, as the laws ask it. Condition: the table of names holds what the program lays there. -/

import Derived.Test.YtplllmfbpliciaaGreatDoorRdrE

namespace Go.Proofs.YtplllmfbpliciaaGreatDoor.Rdr

open Go.RowKit Go.PlainAid Go.Proofs.YtplllmfbpliciaaGreatDoor.Flt Go.Proofs.YtplllmfbpliciaaGreatDoor.Oct

set_option linter.unusedVariables false

theorem rd_cells {w : World} {b : Nat} {t : St} (h : w.heap[b]? = some (.cells (rdC t) 43 (0, 0))) :
    w.cell? ⟨b, 1, none⟩ = some (.int .i64 t.p) ∧ w.cell? ⟨b, 3, none⟩ = some (.int .i64 t.k) ∧ w.cell? ⟨b, 4, none⟩ = some (.int .i64 t.fs) ∧ w.cell? ⟨b, 5, none⟩ = some (.int .i64 t.fa) := by
  refine ⟨?_, ?_, ?_, ?_⟩
  all_goals (rw [cell_of_row w _ _ _ _ _ h]; rfl)
theorem err_ok (g : Nat) (t : St) (w : World) (h : IsRdr w g t) (hk : t.k = 0) :
    Calls Tryz.prog 24 #[.pointer (some ⟨g, 0, none⟩)] w fun e w' => e = .returned .nilIface ∧ w = w' := by
  refine (err_any g t w h).mono ?_
  rintro e w' ⟨x, hx, rfl, rfl⟩
  rcases hx with ⟨_, _, _, rfl⟩ | ⟨h1, _, _⟩
  · exact ⟨rfl, rfl⟩
  · omega
theorem err_bad (g : Nat) (t : St) (w : World) (h : IsRdr w g t) (hk : t.k ≠ 0) :
    Calls Tryz.prog 24 #[.pointer (some ⟨g, 0, none⟩)] w fun e w' => ∃ u y, e = .returned (.iface u y) ∧ w = w' := by
  refine (err_any g t w h).mono ?_
  rintro e w' ⟨x, hx, rfl, rfl⟩
  rcases hx with ⟨h1, _, _, _⟩ | ⟨_, _, h3⟩
  · exact absurd h1 hk
  · obtain ⟨u, y, rfl⟩ := err_of h3
    exact ⟨u, y, rfl, rfl⟩
theorem left_int (g : Nat) (t : St) (w : World) (h : IsRdr w g t) (ho : Ok t) :
    Calls Tryz.prog 13 #[.pointer (some ⟨g, 0, none⟩)] w fun e w' => e = .returned (.int .i64 ((t.s.size : Int) - (t.p : Int))) ∧ ∃ n, w' = w.drewN n := by
  have e : ((t.s.size - t.p : Nat) : Int) = (t.s.size : Int) - (t.p : Int) := by have := ho.1; omega
  rw [← e]
  exact left_any g t w h ho.1 (by have := ho.2; unfold maxLen; omega)
theorem ok_fail {t : St} (h : Ok t) (k a : Int) : Ok (failS t k a) := by unfold failS; split <;> exact h
theorem ok_num {t : St} (h : Ok t) (n : Nat) : Ok (numS t n) := by
  unfold numS
  split
  · split
    · rename_i hg
      refine ⟨?_, h.2⟩
      unfold getB at hg; simp at hg
      show t.p + n ≤ t.s.size; omega
    · exact ok_fail h _ _
  · exact h
theorem ok_txt {t : St} (h : Ok t) (n : Int) : Ok (txtS t n) := by
  unfold txtS
  split
  · split
    · rename_i hp; exact ⟨hp, h.2⟩
    · exact ok_fail h _ _
  · exact h
def awB : ByteArray := ⟨#[1, 2, 3]⟩
theorem aw_b : getB awB (0 : Nat) (2 : Nat) = true := by decide +kernel
theorem aw_v : getV awB (0 : Nat) (2 : Nat) = 258 := by decide +kernel
theorem aw_b2 : getB awB (2 : Nat) (2 : Nat) = false := by decide +kernel
theorem aw_1 : numV ⟨awB, 0, 2, 0, 0, 0⟩ 2 = 258 := by unfold numV; rw [if_pos rfl]; exact aw_v
theorem aw_2 : numS ⟨awB, 0, 2, 0, 0, 0⟩ 2 = ⟨awB, 2, 2, 0, 0, 0⟩ := by
  unfold numS; rw [if_pos rfl]; simp only []; rw [aw_b]; rfl
theorem aw_3 : numV ⟨awB, 2, 2, 0, 0, 0⟩ 2 = 0 := by unfold numV getV; rw [if_pos rfl]; simp only []; rw [aw_b2]; rfl
theorem aw_4 : numS ⟨awB, 2, 2, 0, 0, 0⟩ 2 = ⟨awB, 2, 2, 2, 2, 2⟩ := by
  unfold numS; rw [if_pos rfl]; simp only []; rw [aw_b2]; rfl
theorem aw_ok (p : Nat) (s : Int) (hp : p ≤ 3) : Ok ⟨awB, p, s, 0, 0, 0⟩ := ⟨hp, by show 3 ≤ 1099511627776; omega⟩

end Go.Proofs.YtplllmfbpliciaaGreatDoor.Rdr
