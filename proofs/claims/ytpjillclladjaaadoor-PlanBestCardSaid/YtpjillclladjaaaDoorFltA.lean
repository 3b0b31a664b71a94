
/- What package fault's calls do that make an error or tell a name: Name, Named, New, In, At, First; and the document's names. Condition: the table of names holds what the program lays there. -/

import Derived.Test.YtpjillclladjaaaDoorProg

import Derived.Test.YtpjillclladjaaaDoorFltM

import Derived.Deep.RegionWith

import Derived.WalkLawsBesides

namespace Go.Proofs.YtpjillclladjaaaDoor.Flt

open Go.RowKit Go.PlainAid

/-- The table of names holds the names. -/
def Names (w : World) : Prop := ∃ t, w.heap[0]? = some (.cells nmCells t (0, 0))
theorem Names.below {B : Nat} {w w' : World} (h : Names w) (b : Below B w w') (hB : 0 < B) : Names w' := by
  obtain ⟨t, ht⟩ := h
  exact ⟨t, (b.block _ hB).trans ht⟩
theorem Names.pos {w : World} (h : Names w) : 0 < w.heap.size := by obtain ⟨t, ht⟩ := h; exact lt_of_block ht
theorem Names.kept {w w' : World} (h : Names w) (b : Below w.heap.size w w') : Names w' := h.below b h.pos
theorem Names.cell {w : World} (h : Names w) {k : Nat} (hk : k < 19) : w.cell? ⟨0, k, none⟩ = some (.string (nm k)) := by
  obtain ⟨t, ht⟩ := h
  rw [cell_of_row w _ _ _ _ _ ht, nmCells_at k hk]

theorem ret_str {a b : ByteArray} (h : a = b) : Ending.returned (.string a) = .returned (.string b) := by rw [h]
theorem name_any (k : Int) (hk : -9223372036854775808 ≤ k ∧ k ≤ 9223372036854775807) (w : World) (hn : Names w) :
    Calls Tryd.prog 59 #[.int .i64 k] w fun e w' => e = .returned (.string (nameV k)) ∧ w = w' := by
  rcases (show k < 0 ∨ 19 ≤ k ∨ (0 ≤ k ∧ k < 19) by omega) with h | h | ⟨h0, h1⟩
  · have e : nameV k = ⟨#[]⟩ := by unfold nameV; rw [if_neg (by omega)]
    rw [e]
    clear e hn
    go_enter Tryd.func59, Tryd.ntmps59
    go_wp2
    go_ret
    exact ⟨rfl, rfl⟩
  · have e : nameV k = ⟨#[]⟩ := by unfold nameV; rw [if_neg (by omega)]
    rw [e]
    have t : decide (k < 0) = false := decide_eq_false (by omega)
    clear e hn
    go_enter Tryd.func59, Tryd.ntmps59
    go_wp2
    go_ret
    exact ⟨rfl, rfl⟩
  · obtain ⟨m, rfl⟩ : ∃ m : Nat, k = m := ⟨k.toNat, by omega⟩
    have hc := hn.cell (show m < 19 by omega)
    obtain ⟨X, hX⟩ : ∃ X, nm m = X := ⟨_, rfl⟩
    have e : nameV m = X := by
      unfold nameV
      rcases Nat.eq_zero_or_pos m with rfl | hp
      · rw [if_neg (by omega), ← hX]; rfl
      · rw [if_pos (by omega), ← hX]; rfl
    rw [e]
    rw [hX] at hc
    have t : decide ((m : Int) < 0) = false := decide_eq_false (by omega)
    clear e hn hX
    go_enter Tryd.func59, Tryd.ntmps59
    go_wp2
    go_ret
    exact ⟨rfl, rfl⟩

/-- An error of a class, if there is that class. -/
theorem new_yes (k : Nat) (h1 : 1 ≤ k) (h2 : k ≤ 18) (w : World) (hn : Names w) :
    Calls Tryd.prog 39 #[.int .i64 k] w fun e w' => e = .returned (.iface 94 (.int .i64 k)) ∧ w = w' := by
  have e : nameV (k : Int) = nm k := by unfold nameV; rw [if_pos (by omega)]; rfl
  have HN : Hid (∀ w, Names w → Calls Tryd.prog 59 #[.int .i64 k] w fun e w' => e = .returned (.string (nm k)) ∧ w = w') := by
    intro w hn; rw [← e]; exact name_any k (by omega) w hn
  have hi := nm_some h1 h2
  obtain ⟨X, hX⟩ : ∃ X, nm k = X := ⟨_, rfl⟩
  rw [hX] at hi HN
  clear e hX
  go_enter Tryd.func39, Tryd.ntmps39
  go_wp2_with (go_at_call 59; refine (HN.out _ hn).mono ?_; rintro e w' ⟨rfl, rfl⟩)
  go_ret
  exact ⟨rfl, rfl⟩
theorem new_no (k : Int) (hk : -9223372036854775808 ≤ k ∧ k ≤ 9223372036854775807) (h : k < 1 ∨ 18 < k) (w : World) (hn : Names w) :
    Calls Tryd.prog 39 #[.int .i64 k] w fun e w' => e = .returned .nilIface ∧ w = w' := by
  have e : nameV k = ⟨#[]⟩ := by unfold nameV; rw [if_neg (by omega)]
  have HN : Hid (∀ w, Names w → Calls Tryd.prog 59 #[.int .i64 k] w fun e w' => e = .returned (.string ⟨#[]⟩) ∧ w = w') := by
    intro w hn; rw [← e]; exact name_any k hk w hn
  clear e
  go_enter Tryd.func39, Tryd.ntmps39
  go_wp2_with (go_at_call 59; refine (HN.out _ hn).mono ?_; rintro e w' ⟨rfl, rfl⟩)
  go_ret
  exact ⟨rfl, rfl⟩

/-- Value x is a fault of class k with the wraps ws around it, the outermost first. -/
def IsFault (w : World) : Value → List (Bool × Int) → Int → Prop
  | x, [], k => x = .iface 94 (.int .i64 k)
  | x, (b, n) :: ws, k => ∃ (g : Nat) (y : Value), x = .iface 80 (.pointer (some ⟨g, 0, none⟩)) ∧ w.heap[g]? = some (.cells #[.bool b, .int .i64 n, y] 79 (0, 0)) ∧ IsFault w y ws k
theorem IsFault.kept {w w' : World} (b : Below w.heap.size w w') : ∀ {ws : List (Bool × Int)} {x : Value} {k : Int}, IsFault w x ws k → IsFault w' x ws k
  | [], _, _, h => h
  | (_, _) :: _, _, _, ⟨g, y, e, hg, hy⟩ => ⟨g, y, e, (b.block g (lt_of_block hg)).trans hg, hy.kept b⟩
theorem wrapped_nil (b : Bool) (n : Int) (w : World) :
    Calls Tryd.prog 58 #[.bool b, .int .i64 n, .nilIface] w fun e w' => e = .returned .nilIface ∧ w = w' := by
  go_enter Tryd.func58, Tryd.ntmps58
  go_wp2
  go_ret
  exact ⟨rfl, rfl⟩
theorem wrapped_any (b : Bool) (n : Int) (x : Value) (ws : List (Bool × Int)) (k : Int) (w : World) (h : IsFault w x ws k) :
    Calls Tryd.prog 58 #[.bool b, .int .i64 n, x] w fun e w' => ∃ y, e = .returned y ∧ IsFault w' y ((b, n) :: ws) k ∧ Below w.heap.size w w' := by
  have hb : Below w.heap.size w (w.alloc (.cells #[.bool b, .int .i64 n, x] 79)) := (Below.refl _ _).alloc (Nat.le_refl _) _
  have hr : IsFault (w.alloc (.cells #[.bool b, .int .i64 n, x] 79)) (.iface 80 (.pointer (some ⟨w.heap.size, 0, none⟩))) ((b, n) :: ws) k :=
    ⟨w.heap.size, x, rfl, heap_alloc_new _ _, h.kept hb⟩
  obtain ⟨u, y, rfl⟩ : ∃ u y, x = .iface u y := by
    cases ws with
    | nil => exact ⟨_, _, h⟩
    | cons a ws => obtain ⟨g, y, e, _⟩ := h; exact ⟨_, _, e⟩
  have HR := Lib.hid hr
  clear h hr
  go_enter Tryd.func58, Tryd.ntmps58
  go_wp2
  go_ret
  exact ⟨_, rfl, HR.out, hb⟩
end Go.Proofs.YtpjillclladjaaaDoor.Flt
