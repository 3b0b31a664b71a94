
/- The names of the classes of faults, as package fault and the document hold them: plain data, and that they are all different. It says nothing of the program. No condition. -/

import Derived.WalkKit

import Derived.PlainAid

import Derived.Lib.Hide

namespace Go.Proofs.YtpjillclladjaaaDoor.Flt

open Go.RowKit Go.PlainAid

/-- The names, by the classes' numbers. -/
def nmL : List ByteArray := [⟨#[]⟩, ⟨#[97, 114, 103, 117, 109, 101, 110, 116]⟩, ⟨#[115, 104, 111, 114, 116]⟩, ⟨#[109, 97, 103, 105, 99]⟩, ⟨#[108, 101, 110, 103, 116, 104]⟩, ⟨#[115, 117, 109]⟩, ⟨#[102, 111, 114, 109]⟩, ⟨#[110, 97, 109, 101]⟩, ⟨#[109, 97, 110, 121]⟩, ⟨#[111, 114, 100, 101, 114]⟩, ⟨#[114, 101, 102, 101, 114, 101, 110, 99, 101]⟩, ⟨#[119, 105, 110, 100, 111, 119]⟩, ⟨#[111, 118, 101, 114, 108, 97, 112]⟩, ⟨#[112, 101, 114, 105, 111, 100]⟩, ⟨#[98, 117, 100, 103, 101, 116]⟩, ⟨#[112, 97, 105, 114]⟩, ⟨#[104, 97, 108, 116]⟩, ⟨#[115, 116, 97, 116, 101]⟩, ⟨#[114, 97, 110, 103, 101]⟩]
def nm (k : Nat) : ByteArray := nmL.getD k ⟨#[]⟩
def nmCells : Array Value := (nmL.map Value.string).toArray
/-- The name of a class, or none. -/
def nameV (k : Int) : ByteArray := if 1 ≤ k ∧ k ≤ 18 then nm k.toNat else ⟨#[]⟩
theorem nm_size : nmL.length = 19 := rfl
theorem nmCells_size : nmCells.size = 19 := rfl
theorem nmCells_at (k : Nat) (h : k < 19) : nmCells[k]? = some (.string (nm k)) := by
  have hk : k < nmL.length := h
  simp [nmCells, nm, List.getD, hk]
theorem toList_data (a : ByteArray) : a.toList = a.data.toList := ByteArray.toList_eq a
theorem beq_of_eq {a b : ByteArray} (h : a = b) : (a.toList == b.toList) = true := by subst h; simp
theorem beq_of_ne {a b : ByteArray} (h : a ≠ b) : (a.toList == b.toList) = false := by
  rw [beq_eq_false_iff_ne]; intro e; apply h
  have e' : a.data.toList = b.data.toList := by rw [← toList_data, ← toList_data, e]
  cases a; cases b; simp only at e'; rw [Array.toList_inj.1 e']
theorem nm_inj_b : ∀ i : Fin 19, ∀ j : Fin 19, ((nm i).data.toList == (nm j).data.toList) = (i == j) := by decide +kernel
theorem nm_inj {i j : Nat} (hi : i < 19) (hj : j < 19) (h : nm i = nm j) : i = j := by
  have := nm_inj_b ⟨i, hi⟩ ⟨j, hj⟩
  rw [show nm (⟨i, hi⟩ : Fin 19).val = nm (⟨j, hj⟩ : Fin 19).val from h] at this
  simpa using this
theorem nm_zero : nm 0 = ⟨#[]⟩ := rfl
theorem nm_some {k : Nat} (h1 : 1 ≤ k) (h2 : k ≤ 18) : (nm k).toList.isEmpty = false := by
  cases hh : (nm k).toList.isEmpty with
  | false => rfl
  | true =>
    have e : nm k = nm 0 := by
      rw [nm_zero]
      rw [List.isEmpty_iff, toList_data] at hh
      cases hx : nm k with
      | mk d => rw [hx] at hh; simp only [Array.toList_eq_nil_iff] at hh; rw [hh]
    have := nm_inj (by omega) (by omega) e
    omega
theorem nm_le {k : Nat} (h : k < 19) : (nm k).size ≤ 9 := by
  have : ∀ i : Fin 19, decide ((nm i).size ≤ 9) = true := by decide +kernel
  exact of_decide_eq_true (this ⟨k, h⟩)
/-- Which class a text is the name of: r, or none (0). -/
def IsNamed (s : ByteArray) (r : Nat) : Prop := (r = 0 ∧ ∀ j, 1 ≤ j → j ≤ 18 → nm j ≠ s) ∨ (1 ≤ r ∧ r ≤ 18 ∧ nm r = s)
theorem named_one {s : ByteArray} {r r' : Nat} (h : IsNamed s r) (h' : IsNamed s r') : r = r' := by
  rcases h with ⟨rfl, h⟩ | ⟨h1, h2, h3⟩ <;> rcases h' with ⟨rfl, h'⟩ | ⟨h1', h2', h3'⟩
  · rfl
  · exact absurd h3' (h _ h1' h2')
  · exact absurd h3 (h' _ h1 h2)
  · exact nm_inj (by omega) (by omega) (h3.trans h3'.symm)
theorem named_le {s : ByteArray} {r : Nat} (h : IsNamed s r) : r ≤ 18 := by rcases h with ⟨rfl, _⟩ | ⟨_, h, _⟩ <;> omega
end Go.Proofs.YtpjillclladjaaaDoor.Flt
