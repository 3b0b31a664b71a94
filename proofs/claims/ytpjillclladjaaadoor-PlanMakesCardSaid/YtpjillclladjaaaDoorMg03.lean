/- The names of the classes of faults, as package fault and the document hold them: plain data, and that they are all different. It says nothing of the program. No condition. What package fault's calls do that make an error or tell a name: Name, Named, New, In, At, First; and the document's names. Condition: the table of names holds what the program lays there. What package fault's In, At, Named do, and the document's Named. Condition: the table of names holds what the program lays there. -/
import Derived.WalkKit
import Derived.PlainAid
import Derived.Lib.Hide
import Derived.Test.YtpjillclladjaaaDoorProg
import Derived.Deep.RegionWith
import Derived.WalkLawsBesides
namespace Go.Proofs.YtpjillclladjaaaDoor.Flt

open Go.RowKit Go.PlainAid

/-- The names, by the classes' numbers. -/
def nmL : List ByteArray := [⟨#[]⟩, ⟨#[97, 114, 103, 117, 109, 101, 110, 116]⟩, ⟨#[115, 104, 111, 114, 116]⟩, ⟨#[109, 97, 103, 105, 99]⟩, ⟨#[108, 101, 110, 103, 116, 104]⟩, ⟨#[115, 117, 109]⟩, ⟨#[102, 111, 114, 109]⟩, ⟨#[110, 97, 109, 101]⟩, ⟨#[109, 97, 110, 121]⟩, ⟨#[111, 114, 100, 101, 114]⟩, ⟨#[114, 101, 102, 101, 114, 101, 110, 99, 101]⟩, ⟨#[119, 105, 110, 100, 111, 119]⟩, ⟨#[111, 118, 101, 114, 108, 97, 112]⟩, ⟨#[112, 101, 114, 105, 111, 100]⟩, ⟨#[98, 117, 100, 103, 101, 116]⟩, ⟨#[112, 97, 105, 114]⟩, ⟨#[104, 97, 108, 116]⟩, ⟨#[115, 116, 97, 116, 101]⟩, ⟨#[114, 97, 110, 103, 101]⟩]
def nm (k : Nat) : ByteArray := nmL.getD k ⟨#[]⟩
def nmCells : Array Value := (nmL.map Value.string).toArray
/-- The name of a class, or none. -/
def nameV (k : Int) : ByteArray := if 1 ≤ k ∧ k ≤ 18 then nm k.toNat else ⟨#[]⟩
theorem nm_size : nmL.length = 19 := rfl
theorem nmCells_size : nmCells.size = 19 := rfl
theorem nmCells_at (k : Nat) (h : k < 19) : nmCells[k]? = some (.string (nm k)) := by
  have hk : k < nmL.length := h
  simp [nmCells, nm, List.getD, hk]
theorem toList_data (a : ByteArray) : a.toList = a.data.toList := ByteArray.toList_eq a
theorem beq_of_eq {a b : ByteArray} (h : a = b) : (a.toList == b.toList) = true := by subst h; simp
theorem beq_of_ne {a b : ByteArray} (h : a ≠ b) : (a.toList == b.toList) = false := by
  rw [beq_eq_false_iff_ne]; intro e; apply h
  have e' : a.data.toList = b.data.toList := by rw [← toList_data, ← toList_data, e]
  cases a; cases b; simp only at e'; rw [Array.toList_inj.1 e']
theorem nm_inj_b : ∀ i : Fin 19, ∀ j : Fin 19, ((nm i).data.toList == (nm j).data.toList) = (i == j) := by decide +kernel
theorem nm_inj {i j : Nat} (hi : i < 19) (hj : j < 19) (h : nm i = nm j) : i = j := by
  have := nm_inj_b ⟨i, hi⟩ ⟨j, hj⟩
  rw [show nm (⟨i, hi⟩ : Fin 19).val = nm (⟨j, hj⟩ : Fin 19).val from h] at this
  simpa using this
theorem nm_zero : nm 0 = ⟨#[]⟩ := rfl
theorem nm_some {k : Nat} (h1 : 1 ≤ k) (h2 : k ≤ 18) : (nm k).toList.isEmpty = false := by
  cases hh : (nm k).toList.isEmpty with
  | false => rfl
  | true =>
    have e : nm k = nm 0 := by
      rw [nm_zero]
      rw [List.isEmpty_iff, toList_data] at hh
      cases hx : nm k with
      | mk d => rw [hx] at hh; simp only [Array.toList_eq_nil_iff] at hh; rw [hh]
    have := nm_inj (by omega) (by omega) e
    omega
theorem nm_le {k : Nat} (h : k < 19) : (nm k).size ≤ 9 := by
  have : ∀ i : Fin 19, decide ((nm i).size ≤ 9) = true := by decide +kernel
  exact of_decide_eq_true (this ⟨k, h⟩)
/-- Which class a text is the name of: r, or none (0). -/
def IsNamed (s : ByteArray) (r : Nat) : Prop := (r = 0 ∧ ∀ j, 1 ≤ j → j ≤ 18 → nm j ≠ s) ∨ (1 ≤ r ∧ r ≤ 18 ∧ nm r = s)
theorem named_one {s : ByteArray} {r r' : Nat} (h : IsNamed s r) (h' : IsNamed s r') : r = r' := by
  rcases h with ⟨rfl, h⟩ | ⟨h1, h2, h3⟩ <;> rcases h' with ⟨rfl, h'⟩ | ⟨h1', h2', h3'⟩
  · rfl
  · exact absurd h3' (h _ h1' h2')
  · exact absurd h3 (h' _ h1 h2)
  · exact nm_inj (by omega) (by omega) (h3.trans h3'.symm)
theorem named_le {s : ByteArray} {r : Nat} (h : IsNamed s r) : r ≤ 18 := by rcases h with ⟨rfl, _⟩ | ⟨_, h, _⟩ <;> omega
end Go.Proofs.YtpjillclladjaaaDoor.Flt
namespace Go.Proofs.YtpjillclladjaaaDoor.Flt

open Go.RowKit Go.PlainAid

/-- The table of names holds the names. -/
def Names (w : World) : Prop := ∃ t, w.heap[0]? = some (.cells nmCells t (0, 0))
theorem Names.below {B : Nat} {w w' : World} (h : Names w) (b : Below B w w') (hB : 0 < B) : Names w' := by
  obtain ⟨t, ht⟩ := h
  exact ⟨t, (b.block _ hB).trans ht⟩
theorem Names.pos {w : World} (h : Names w) : 0 < w.heap.size := by obtain ⟨t, ht⟩ := h; exact lt_of_block ht
theorem Names.kept {w w' : World} (h : Names w) (b : Below w.heap.size w w') : Names w' := h.below b h.pos
theorem Names.cell {w : World} (h : Names w) {k : Nat} (hk : k < 19) : w.cell? ⟨0, k, none⟩ = some (.string (nm k)) := by
  obtain ⟨t, ht⟩ := h
  rw [cell_of_row w _ _ _ _ _ ht, nmCells_at k hk]

theorem ret_str {a b : ByteArray} (h : a = b) : Ending.returned (.string a) = .returned (.string b) := by rw [h]
theorem name_any (k : Int) (hk : -9223372036854775808 ≤ k ∧ k ≤ 9223372036854775807) (w : World) (hn : Names w) :
    Calls Tryd.prog 59 #[.int .i64 k] w fun e w' => e = .returned (.string (nameV k)) ∧ w = w' := by
  rcases (show k < 0 ∨ 19 ≤ k ∨ (0 ≤ k ∧ k < 19) by omega) with h | h | ⟨h0, h1⟩
  · have e : nameV k = ⟨#[]⟩ := by unfold nameV; rw [if_neg (by omega)]
    rw [e]
    clear e hn
    go_enter Tryd.func59, Tryd.ntmps59
    go_wp2
    go_ret
    exact ⟨rfl, rfl⟩
  · have e : nameV k = ⟨#[]⟩ := by unfold nameV; rw [if_neg (by omega)]
    rw [e]
    have t : decide (k < 0) = false := decide_eq_false (by omega)
    clear e hn
    go_enter Tryd.func59, Tryd.ntmps59
    go_wp2
    go_ret
    exact ⟨rfl, rfl⟩
  · obtain ⟨m, rfl⟩ : ∃ m : Nat, k = m := ⟨k.toNat, by omega⟩
    have hc := hn.cell (show m < 19 by omega)
    obtain ⟨X, hX⟩ : ∃ X, nm m = X := ⟨_, rfl⟩
    have e : nameV m = X := by
      unfold nameV
      rcases Nat.eq_zero_or_pos m with rfl | hp
      · rw [if_neg (by omega), ← hX]; rfl
      · rw [if_pos (by omega), ← hX]; rfl
    rw [e]
    rw [hX] at hc
    have t : decide ((m : Int) < 0) = false := decide_eq_false (by omega)
    clear e hn hX
    go_enter Tryd.func59, Tryd.ntmps59
    go_wp2
    go_ret
    exact ⟨rfl, rfl⟩

/-- An error of a class, if there is that class. -/
theorem new_yes (k : Nat) (h1 : 1 ≤ k) (h2 : k ≤ 18) (w : World) (hn : Names w) :
    Calls Tryd.prog 39 #[.int .i64 k] w fun e w' => e = .returned (.iface 94 (.int .i64 k)) ∧ w = w' := by
  have e : nameV (k : Int) = nm k := by unfold nameV; rw [if_pos (by omega)]; rfl
  have HN : Hid (∀ w, Names w → Calls Tryd.prog 59 #[.int .i64 k] w fun e w' => e = .returned (.string (nm k)) ∧ w = w') := by
    intro w hn; rw [← e]; exact name_any k (by omega) w hn
  have hi := nm_some h1 h2
  obtain ⟨X, hX⟩ : ∃ X, nm k = X := ⟨_, rfl⟩
  rw [hX] at hi HN
  clear e hX
  go_enter Tryd.func39, Tryd.ntmps39
  go_wp2_with (go_at_call 59; refine (HN.out _ hn).mono ?_; rintro e w' ⟨rfl, rfl⟩)
  go_ret
  exact ⟨rfl, rfl⟩
theorem new_no (k : Int) (hk : -9223372036854775808 ≤ k ∧ k ≤ 9223372036854775807) (h : k < 1 ∨ 18 < k) (w : World) (hn : Names w) :
    Calls Tryd.prog 39 #[.int .i64 k] w fun e w' => e = .returned .nilIface ∧ w = w' := by
  have e : nameV k = ⟨#[]⟩ := by unfold nameV; rw [if_neg (by omega)]
  have HN : Hid (∀ w, Names w → Calls Tryd.prog 59 #[.int .i64 k] w fun e w' => e = .returned (.string ⟨#[]⟩) ∧ w = w') := by
    intro w hn; rw [← e]; exact name_any k hk w hn
  clear e
  go_enter Tryd.func39, Tryd.ntmps39
  go_wp2_with (go_at_call 59; refine (HN.out _ hn).mono ?_; rintro e w' ⟨rfl, rfl⟩)
  go_ret
  exact ⟨rfl, rfl⟩

/-- Value x is a fault of class k with the wraps ws around it, the outermost first. -/
def IsFault (w : World) : Value → List (Bool × Int) → Int → Prop
  | x, [], k => x = .iface 94 (.int .i64 k)
  | x, (b, n) :: ws, k => ∃ (g : Nat) (y : Value), x = .iface 80 (.pointer (some ⟨g, 0, none⟩)) ∧ w.heap[g]? = some (.cells #[.bool b, .int .i64 n, y] 79 (0, 0)) ∧ IsFault w y ws k
theorem IsFault.kept {w w' : World} (b : Below w.heap.size w w') : ∀ {ws : List (Bool × Int)} {x : Value} {k : Int}, IsFault w x ws k → IsFault w' x ws k
  | [], _, _, h => h
  | (_, _) :: _, _, _, ⟨g, y, e, hg, hy⟩ => ⟨g, y, e, (b.block g (lt_of_block hg)).trans hg, hy.kept b⟩
theorem wrapped_nil (b : Bool) (n : Int) (w : World) :
    Calls Tryd.prog 58 #[.bool b, .int .i64 n, .nilIface] w fun e w' => e = .returned .nilIface ∧ w = w' := by
  go_enter Tryd.func58, Tryd.ntmps58
  go_wp2
  go_ret
  exact ⟨rfl, rfl⟩
theorem wrapped_any (b : Bool) (n : Int) (x : Value) (ws : List (Bool × Int)) (k : Int) (w : World) (h : IsFault w x ws k) :
    Calls Tryd.prog 58 #[.bool b, .int .i64 n, x] w fun e w' => ∃ y, e = .returned y ∧ IsFault w' y ((b, n) :: ws) k ∧ Below w.heap.size w w' := by
  have hb : Below w.heap.size w (w.alloc (.cells #[.bool b, .int .i64 n, x] 79)) := (Below.refl _ _).alloc (Nat.le_refl _) _
  have hr : IsFault (w.alloc (.cells #[.bool b, .int .i64 n, x] 79)) (.iface 80 (.pointer (some ⟨w.heap.size, 0, none⟩))) ((b, n) :: ws) k :=
    ⟨w.heap.size, x, rfl, heap_alloc_new _ _, h.kept hb⟩
  obtain ⟨u, y, rfl⟩ : ∃ u y, x = .iface u y := by
    cases ws with
    | nil => exact ⟨_, _, h⟩
    | cons a ws => obtain ⟨g, y, e, _⟩ := h; exact ⟨_, _, e⟩
  have HR := Lib.hid hr
  clear h hr
  go_enter Tryd.func58, Tryd.ntmps58
  go_wp2
  go_ret
  exact ⟨_, rfl, HR.out, hb⟩
end Go.Proofs.YtpjillclladjaaaDoor.Flt
namespace Go.Proofs.YtpjillclladjaaaDoor.Flt

open Go.RowKit Go.PlainAid

theorem at_nil (n : Int) (w : World) :
    Calls Tryd.prog 38 #[.int .i64 n, .nilIface] w fun e w' => e = .returned .nilIface ∧ w = w' := by
  go_enter Tryd.func38, Tryd.ntmps38
  go_wp2_with (go_at_call 58; refine (wrapped_nil _ _ _).mono ?_; rintro e w' ⟨rfl, rfl⟩)
  go_ret
  exact ⟨rfl, rfl⟩
theorem at_any (n : Int) (x : Value) (ws : List (Bool × Int)) (k : Int) (w : World) (h : IsFault w x ws k) :
    Calls Tryd.prog 38 #[.int .i64 n, x] w fun e w' => ∃ y, e = .returned y ∧ IsFault w' y ((false, n) :: ws) k ∧ Below w.heap.size w w' := by
  have H := Lib.hid h
  clear h
  go_enter Tryd.func38, Tryd.ntmps38
  go_wp2_with fail
  refine (wrapped_any false n x ws k _ H.out).mono ?_
  rintro e w' ⟨y, rfl, h2, hb⟩
  have H2 := Lib.hid h2
  clear h2
  go_wp2
  go_ret
  exact ⟨_, rfl, H2.out, hb⟩
theorem index_names (k : Nat) (h : k < 19) (w : World) : (Instr.index 116 (.agg nmCells) (.int .i64 k)).run Tryd.prog w = .ok (.string (nm k)) w := by
  rcases (show k = 0 ∨ k = 1 ∨ k = 2 ∨ k = 3 ∨ k = 4 ∨ k = 5 ∨ k = 6 ∨ k = 7 ∨ k = 8 ∨ k = 9 ∨ k = 10 ∨ k = 11 ∨ k = 12 ∨ k = 13 ∨ k = 14 ∨ k = 15 ∨ k = 16 ∨ k = 17 ∨ k = 18 by omega) with rfl | rfl | rfl | rfl | rfl | rfl | rfl | rfl | rfl | rfl | rfl | rfl | rfl | rfl | rfl | rfl | rfl | rfl | rfl
  all_goals kernel_rfl

/-- No name among the first k is the text. -/
def NoneYet (s : ByteArray) (k : Nat) : Prop := ∀ j, 1 ≤ j → j < k → nm j ≠ s
theorem none_step {s : ByteArray} {k : Nat} (h : NoneYet s k) (hk : nm k ≠ s) : NoneYet s (k + 1) := by
  intro j h1 h2
  rcases Nat.lt_or_ge j k with hl | hl
  · exact h j h1 hl
  · obtain rfl : j = k := by omega
    exact hk
def NPost (s : ByteArray) (w : World) (e : Ending) (w' : World) : Prop := ∃ r : Nat, IsNamed s r ∧ e = .returned (.tuple #[.int .i64 r, .bool (decide (0 < r))]) ∧ w = w'
theorem empty_of (s : ByteArray) (h : s.toList.isEmpty = true) : s = nm 0 := by
  rw [nm_zero]
  rw [List.isEmpty_iff, toList_data] at h
  cases s with
  | mk d => simp only [Array.toList_eq_nil_iff] at h; rw [h]

def RNPost (s : ByteArray) (w : World) (e : Ending) (w' : World) : Prop := ∃ r : Nat, IsNamed s r ∧ e = .returned (.int .i64 r) ∧ Below w.heap.size w w'
end Go.Proofs.YtpjillclladjaaaDoor.Flt
