
/- What package fault's In, At, Named do, and the document's Named. Condition: the table of names holds what the program lays there. -/

import Derived.Test.YtpjillclladjaaaDoorFltA

namespace Go.Proofs.YtpjillclladjaaaDoor.Flt

open Go.RowKit Go.PlainAid

theorem at_nil (n : Int) (w : World) :
    Calls Tryd.prog 38 #[.int .i64 n, .nilIface] w fun e w' => e = .returned .nilIface ∧ w = w' := by
  go_enter Tryd.func38, Tryd.ntmps38
  go_wp2_with (go_at_call 58; refine (wrapped_nil _ _ _).mono ?_; rintro e w' ⟨rfl, rfl⟩)
  go_ret
  exact ⟨rfl, rfl⟩
theorem at_any (n : Int) (x : Value) (ws : List (Bool × Int)) (k : Int) (w : World) (h : IsFault w x ws k) :
    Calls Tryd.prog 38 #[.int .i64 n, x] w fun e w' => ∃ y, e = .returned y ∧ IsFault w' y ((false, n) :: ws) k ∧ Below w.heap.size w w' := by
  have H := Lib.hid h
  clear h
  go_enter Tryd.func38, Tryd.ntmps38
  go_wp2_with fail
  refine (wrapped_any false n x ws k _ H.out).mono ?_
  rintro e w' ⟨y, rfl, h2, hb⟩
  have H2 := Lib.hid h2
  clear h2
  go_wp2
  go_ret
  exact ⟨_, rfl, H2.out, hb⟩
theorem index_names (k : Nat) (h : k < 19) (w : World) : (Instr.index 116 (.agg nmCells) (.int .i64 k)).run Tryd.prog w = .ok (.string (nm k)) w := by
  rcases (show k = 0 ∨ k = 1 ∨ k = 2 ∨ k = 3 ∨ k = 4 ∨ k = 5 ∨ k = 6 ∨ k = 7 ∨ k = 8 ∨ k = 9 ∨ k = 10 ∨ k = 11 ∨ k = 12 ∨ k = 13 ∨ k = 14 ∨ k = 15 ∨ k = 16 ∨ k = 17 ∨ k = 18 by omega) with rfl | rfl | rfl | rfl | rfl | rfl | rfl | rfl | rfl | rfl | rfl | rfl | rfl | rfl | rfl | rfl | rfl | rfl | rfl
  all_goals kernel_rfl

/-- No name among the first k is the text. -/
def NoneYet (s : ByteArray) (k : Nat) : Prop := ∀ j, 1 ≤ j → j < k → nm j ≠ s
theorem none_step {s : ByteArray} {k : Nat} (h : NoneYet s k) (hk : nm k ≠ s) : NoneYet s (k + 1) := by
  intro j h1 h2
  rcases Nat.lt_or_ge j k with hl | hl
  · exact h j h1 hl
  · obtain rfl : j = k := by omega
    exact hk
def NPost (s : ByteArray) (w : World) (e : Ending) (w' : World) : Prop := ∃ r : Nat, IsNamed s r ∧ e = .returned (.tuple #[.int .i64 r, .bool (decide (0 < r))]) ∧ w = w'
theorem empty_of (s : ByteArray) (h : s.toList.isEmpty = true) : s = nm 0 := by
  rw [nm_zero]
  rw [List.isEmpty_iff, toList_data] at h
  cases s with
  | mk d => simp only [Array.toList_eq_nil_iff] at h; rw [h]

def RNPost (s : ByteArray) (w : World) (e : Ending) (w' : World) : Prop := ∃ r : Nat, IsNamed s r ∧ e = .returned (.int .i64 r) ∧ Below w.heap.size w w'
end Go.Proofs.YtpjillclladjaaaDoor.Flt
