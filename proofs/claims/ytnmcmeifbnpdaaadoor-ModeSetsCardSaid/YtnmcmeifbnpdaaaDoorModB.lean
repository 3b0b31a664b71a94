
/- Modes: their names. Condition: the table of names holds what the program lays in it. -/

import Derived.Test.YtnmcmeifbnpdaaaDoorModA

namespace Go.Proofs.YtnmcmeifbnpdaaaDoor.Mod

open Go.RowKit Go.PlainAid

set_option linter.unusedVariables false

set_option linter.unusedSimpArgs false

def mdL : List ByteArray := [⟨#[105, 100, 108, 101]⟩, ⟨#[99, 111, 108, 100]⟩, ⟨#[119, 97, 114, 109]⟩, ⟨#[110, 111, 114, 109, 97, 108]⟩]
def md (k : Nat) : ByteArray := mdL.getD k ⟨#[]⟩
def mdCells : Array Value := (mdL.map Value.string).toArray
theorem toList_data (s : ByteArray) : s.toList = s.data.toList := ByteArray.toList_eq s
theorem mdCells_size : mdCells.size = 4 := rfl
theorem mdCells_at (k : Nat) (h : k < 4) : mdCells[k]? = some (.string (md k)) := by
  rcases (show k = 0 ∨ k = 1 ∨ k = 2 ∨ k = 3 by omega) with rfl | rfl | rfl | rfl <;> rfl
theorem beq_of_eq {a b : ByteArray} (h : a = b) : (a.toList == b.toList) = true := by subst h; simp
theorem beq_of_ne {a b : ByteArray} (h : a ≠ b) : (a.toList == b.toList) = false := by
  rw [beq_eq_false_iff_ne]; intro e; apply h
  have e' : a.data.toList = b.data.toList := by rw [← toList_data, ← toList_data, e]
  cases a; cases b; simp only at e'; rw [Array.toList_inj.1 e']
theorem md_inj_b : ∀ i : Fin 4, ∀ j : Fin 4, ((md i).data.toList == (md j).data.toList) = (i == j) := by decide +kernel
theorem md_inj {i j : Nat} (hi : i < 4) (hj : j < 4) (h : md i = md j) : i = j := by
  have := md_inj_b ⟨i, hi⟩ ⟨j, hj⟩
  simp only [h, beq_self_eq_true] at this
  have := eq_of_beq this.symm
  exact Fin.mk.inj_iff.1 this
/-- The table of names. -/
def Tab (w : World) : Prop := ∃ t, w.heap[0]? = some (.cells mdCells t (0, 0))
theorem Tab.below {B : Nat} {w w' : World} (h : Tab w) (b : Below B w w') (hB : 0 < B) : Tab w' := by
  obtain ⟨t, ht⟩ := h
  exact ⟨t, (b.block _ hB).trans ht⟩
theorem Tab.pos {w : World} (h : Tab w) : 0 < w.heap.size := by obtain ⟨t, ht⟩ := h; exact lt_of_block ht
theorem Tab.kept {w w' : World} (h : Tab w) (b : Below w.heap.size w w') : Tab w' := h.below b h.pos
theorem Tab.cell {w : World} (h : Tab w) {k : Nat} (hk : k < 4) : w.cell? ⟨0, k, none⟩ = some (.string (md k)) := by
  obtain ⟨t, ht⟩ := h
  rw [cell_of_row w _ _ _ _ _ ht, mdCells_at k hk]
/-- A mode's name. -/
def mdV (m : Int) : ByteArray := if m < 0 ∨ 3 < m then ⟨#[]⟩ else md m.toNat
theorem name_any (m : Int) (w : World) (hn : Tab w) :
    Calls Tryd.prog 10 #[.int .i64 m] w fun e w' => e = .returned (.string (mdV m)) ∧ w = w' := by
  unfold mdV
  by_cases h : m < 0 ∨ 3 < m
  · rw [if_pos h]
    have H := Lib.hid h
    clear h hn
    go_enter Tryd.func10, Tryd.ntmps10
    go_wp2_with fail
    refine (right_no m _ H.out).mono ?_
    rintro e w' ⟨rfl, rfl⟩
    go_wp2
    go_ret
    exact ⟨rfl, rfl⟩
  · rw [if_neg h]
    obtain ⟨k, rfl⟩ : ∃ k : Nat, m = k := ⟨m.toNat, by omega⟩
    have hc := hn.cell (show k < 4 by omega)
    obtain ⟨X, hX⟩ : ∃ X, md k = X := ⟨_, rfl⟩
    rw [Int.toNat_natCast, hX]
    rw [hX] at hc
    have H0 : Hid (0 ≤ (k : Int)) := by show _ ≤ _; omega
    have H3 : Hid ((k : Int) ≤ 3) := by show _ ≤ _; omega
    have hk4 : (k : Int) < 4 := by omega
    clear h hn hX
    go_enter Tryd.func10, Tryd.ntmps10
    go_wp2_with fail
    refine (right_yes k _ H0.out H3.out).mono ?_
    rintro e w' ⟨rfl, rfl⟩
    go_wp2
    go_ret
    exact ⟨rfl, rfl⟩
theorem index_md (k : Nat) (h : k < 4) (w : World) : (Instr.index 41 (.agg mdCells) (.int .i64 k)).run Tryd.prog w = .ok (.string (md k)) w := by
  rcases (show k = 0 ∨ k = 1 ∨ k = 2 ∨ k = 3 by omega) with rfl | rfl | rfl | rfl
  all_goals kernel_rfl
/-- Which of the first k names the text is. -/
def Part (s : ByteArray) (k : Nat) (a : Int) (b : Bool) : Prop := (∃ j : Nat, j < k ∧ md j = s ∧ a = j ∧ b = true) ∨ ((∀ j, j < k → md j ≠ s) ∧ a = 0 ∧ b = false)
theorem Part.zero (s : ByteArray) : Part s 0 0 false := .inr ⟨fun j h => by omega, rfl, rfl⟩
theorem Part.next_no {s : ByteArray} {k : Nat} {a : Int} {b : Bool} (h : Part s k a b) (hn : md k ≠ s) : Part s (k + 1) a b := by
  rcases h with ⟨j, hj, h1, h2, h3⟩ | ⟨h1, h2, h3⟩
  · exact .inl ⟨j, by omega, h1, h2, h3⟩
  · refine .inr ⟨fun j hj => ?_, h2, h3⟩
    rcases (show j < k ∨ j = k by omega) with h | rfl
    · exact h1 j h
    · exact hn
theorem Part.next_yes {s : ByteArray} {k : Nat} (hn : md k = s) : Part s (k + 1) k true := .inl ⟨k, by omega, hn, rfl, rfl⟩
theorem Part.same {s : ByteArray} {a a' : Int} {b b' : Bool} (h : Part s 4 a b) (h' : Part s 4 a' b') : a = a' ∧ b = b' := by
  rcases h with ⟨j, hj, h1, rfl, rfl⟩ | ⟨h1, rfl, rfl⟩ <;> rcases h' with ⟨j', hj', h1', rfl, rfl⟩ | ⟨h1', rfl, rfl⟩
  · have := md_inj hj hj' (h1.trans h1'.symm)
    subst this
    exact ⟨rfl, rfl⟩
  · exact absurd h1 (h1' j hj)
  · exact absurd h1' (h1 j' hj')
  · exact ⟨rfl, rfl⟩
def NPost (s : ByteArray) (w : World) (e : Ending) (w' : World) : Prop := ∃ (a : Int) (b : Bool), Part s 4 a b ∧ e = .returned (.tuple #[.int .i64 a, .bool b]) ∧ w = w'
theorem named_any (s : ByteArray) (w : World) (hn : Tab w) :
    Calls Tryd.prog 9 #[.string s] w (NPost s w) := by
  obtain ⟨t, ht⟩ := hn
  have HT := Lib.hid ht
  clear ht
  go_enter Tryd.func9, Tryd.ntmps9
  go_wp2_with ((with_reducible show wpList _ _ _ _ _ _); refine wpList_load_row rfl 41 _ rfl 0 rfl t mdCells (0, 0) _ HT.out Tryd.underlying41 rfl (by kernel_rfl) ?_)
  go_loop [7] (fun i => ∃ k : Nat, k ≤ 4 ∧ i = .int .i64 k ∧ ∀ j, j < k → md j ≠ s) (fun i => (4 - intOf i).toNat)
  case atStart => exact ⟨0, by omega, rfl, fun j h1 => by omega⟩
  case round =>
    obtain ⟨k, hk, rfl, hnone⟩ := hrel
    have HN := Lib.hid hnone
    clear hnone
    by_cases hlt : k < 4
    · have hidx := index_md k hlt
      have tl : decide ((k : Int) < 4) = true := decide_eq_true (by omega)
      have hkb : (k : Int) ≤ 3 := by omega
      obtain ⟨X, hX⟩ : ∃ X, md k = X := ⟨_, rfl⟩
      have HX := Lib.hid hX
      rw [hX] at hidx
      have HL := Lib.hid hlt
      clear hX hlt hk
      by_cases hh : X = s
      · have tb := beq_of_eq hh
        have HH := Lib.hid hh
        clear hh
        go_wp2
        go_ret2
        exact ⟨k, true, .inl ⟨k, HL.out, HX.out.trans HH.out, rfl, rfl⟩, rfl, rfl⟩
      · have tb := beq_of_ne hh
        have HH := Lib.hid hh
        clear hh
        go_wp2
        go_round
        case rel => exact ⟨k + 1, by have := HL.out; omega, by go_num, fun j hj => by
          rcases (show j < k ∨ j = k by omega) with h | rfl
          · exact HN.out j h
          · rw [HX.out]; exact HH.out⟩
        case measure => have := HL.out; simp [intOf]; omega
    · obtain rfl : k = 4 := by omega
      clear hk hlt
      go_wp2
      go_ret2
      exact ⟨0, false, .inr ⟨HN.out, rfl, rfl⟩, rfl, rfl⟩
end Go.Proofs.YtnmcmeifbnpdaaaDoor.Mod
