/- The names of the classes of faults, as package fault and the document hold them: plain data, and that they are all different. It says nothing of the program. No condition. What package fault's calls do that make an error or tell a name: Name, Named, New, In, At, First; and the document's names. Condition: the table of names holds what the program lays there. What package fault's In, At, Named do, and the document's Named. Condition: the table of names holds what the program lays there. What fault's outermost does: of nil nothing, of a class or a wrap that itself; nothing that was there has changed. Condition: the error is one of these. What package fault's parts does at a fault: its wraps, the outermost first, in memory of its own, and its class; nothing that was there has changed. Condition: there are at most a million wraps. What package fault's Of tells of a fault: its class, the outermost section and the outermost place; of nil nothing; and First, of errors. Condition: there are at most a million wraps. That faults stay what they are where their wraps' blocks stay as they are. It says nothing of what the program does. No condition. -/
import Derived.WalkKit
import Derived.PlainAid
import Derived.Lib.Hide
import Derived.Test.YtnngldkpkhabeaaProg
import Derived.Deep.RegionWith
import Derived.WalkLawsBesides
import Derived.Test.YtnngldkpkhabeaaMg01
import Derived.Laws.StructEq
namespace Go.Proofs.Ytnngldkpkhabeaa.Flt

open Go.RowKit Go.PlainAid

/-- The names, by the classes' numbers. -/
def nmL : List ByteArray := [⟨#[]⟩, ⟨#[97, 114, 103, 117, 109, 101, 110, 116]⟩, ⟨#[115, 104, 111, 114, 116]⟩, ⟨#[109, 97, 103, 105, 99]⟩, ⟨#[108, 101, 110, 103, 116, 104]⟩, ⟨#[115, 117, 109]⟩, ⟨#[102, 111, 114, 109]⟩, ⟨#[110, 97, 109, 101]⟩, ⟨#[109, 97, 110, 121]⟩, ⟨#[111, 114, 100, 101, 114]⟩, ⟨#[114, 101, 102, 101, 114, 101, 110, 99, 101]⟩, ⟨#[119, 105, 110, 100, 111, 119]⟩, ⟨#[111, 118, 101, 114, 108, 97, 112]⟩, ⟨#[112, 101, 114, 105, 111, 100]⟩, ⟨#[98, 117, 100, 103, 101, 116]⟩, ⟨#[112, 97, 105, 114]⟩, ⟨#[104, 97, 108, 116]⟩, ⟨#[115, 116, 97, 116, 101]⟩, ⟨#[114, 97, 110, 103, 101]⟩]
def nm (k : Nat) : ByteArray := nmL.getD k ⟨#[]⟩
def nmCells : Array Value := (nmL.map Value.string).toArray
/-- The name of a class, or none. -/
def nameV (k : Int) : ByteArray := if 1 ≤ k ∧ k ≤ 18 then nm k.toNat else ⟨#[]⟩
theorem nm_size : nmL.length = 19 := rfl
theorem nmCells_size : nmCells.size = 19 := rfl
theorem nmCells_at (k : Nat) (h : k < 19) : nmCells[k]? = some (.string (nm k)) := by
  have hk : k < nmL.length := h
  simp [nmCells, nm, List.getD, hk]
theorem toList_data (a : ByteArray) : a.toList = a.data.toList := ByteArray.toList_eq a
theorem beq_of_eq {a b : ByteArray} (h : a = b) : (a.toList == b.toList) = true := by subst h; simp
theorem beq_of_ne {a b : ByteArray} (h : a ≠ b) : (a.toList == b.toList) = false := by
  rw [beq_eq_false_iff_ne]; intro e; apply h
  have e' : a.data.toList = b.data.toList := by rw [← toList_data, ← toList_data, e]
  cases a; cases b; simp only at e'; rw [Array.toList_inj.1 e']
theorem nm_inj_b : ∀ i : Fin 19, ∀ j : Fin 19, ((nm i).data.toList == (nm j).data.toList) = (i == j) := by decide +kernel
theorem nm_inj {i j : Nat} (hi : i < 19) (hj : j < 19) (h : nm i = nm j) : i = j := by
  have := nm_inj_b ⟨i, hi⟩ ⟨j, hj⟩
  rw [show nm (⟨i, hi⟩ : Fin 19).val = nm (⟨j, hj⟩ : Fin 19).val from h] at this
  simpa using this
theorem nm_zero : nm 0 = ⟨#[]⟩ := rfl
theorem nm_some {k : Nat} (h1 : 1 ≤ k) (h2 : k ≤ 18) : (nm k).toList.isEmpty = false := by
  cases hh : (nm k).toList.isEmpty with
  | false => rfl
  | true =>
    have e : nm k = nm 0 := by
      rw [nm_zero]
      rw [List.isEmpty_iff, toList_data] at hh
      cases hx : nm k with
      | mk d => rw [hx] at hh; simp only [Array.toList_eq_nil_iff] at hh; rw [hh]
    have := nm_inj (by omega) (by omega) e
    omega
theorem nm_le {k : Nat} (h : k < 19) : (nm k).size ≤ 9 := by
  have : ∀ i : Fin 19, decide ((nm i).size ≤ 9) = true := by decide +kernel
  exact of_decide_eq_true (this ⟨k, h⟩)
/-- Which class a text is the name of: r, or none (0). -/
def IsNamed (s : ByteArray) (r : Nat) : Prop := (r = 0 ∧ ∀ j, 1 ≤ j → j ≤ 18 → nm j ≠ s) ∨ (1 ≤ r ∧ r ≤ 18 ∧ nm r = s)
theorem named_one {s : ByteArray} {r r' : Nat} (h : IsNamed s r) (h' : IsNamed s r') : r = r' := by
  rcases h with ⟨rfl, h⟩ | ⟨h1, h2, h3⟩ <;> rcases h' with ⟨rfl, h'⟩ | ⟨h1', h2', h3'⟩
  · rfl
  · exact absurd h3' (h _ h1' h2')
  · exact absurd h3 (h' _ h1 h2)
  · exact nm_inj (by omega) (by omega) (h3.trans h3'.symm)
theorem named_le {s : ByteArray} {r : Nat} (h : IsNamed s r) : r ≤ 18 := by rcases h with ⟨rfl, _⟩ | ⟨_, h, _⟩ <;> omega
end Go.Proofs.Ytnngldkpkhabeaa.Flt
namespace Go.Proofs.Ytnngldkpkhabeaa.Flt

open Go.RowKit Go.PlainAid

theorem ret_str {a b : ByteArray} (h : a = b) : Ending.returned (.string a) = .returned (.string b) := by rw [h]
end Go.Proofs.Ytnngldkpkhabeaa.Flt
namespace Go.Proofs.Ytnngldkpkhabeaa.Flt

open Go.RowKit Go.PlainAid

/-- No name among the first k is the text. -/
def NoneYet (s : ByteArray) (k : Nat) : Prop := ∀ j, 1 ≤ j → j < k → nm j ≠ s
theorem none_step {s : ByteArray} {k : Nat} (h : NoneYet s k) (hk : nm k ≠ s) : NoneYet s (k + 1) := by
  intro j h1 h2
  rcases Nat.lt_or_ge j k with hl | hl
  · exact h j h1 hl
  · obtain rfl : j = k := by omega
    exact hk
def NPost (s : ByteArray) (w : World) (e : Ending) (w' : World) : Prop := ∃ r : Nat, IsNamed s r ∧ e = .returned (.tuple #[.int .i64 r, .bool (decide (0 < r))]) ∧ w = w'
theorem empty_of (s : ByteArray) (h : s.toList.isEmpty = true) : s = nm 0 := by
  rw [nm_zero]
  rw [List.isEmpty_iff, toList_data] at h
  cases s with
  | mk d => simp only [Array.toList_eq_nil_iff] at h; rw [h]

def RNPost (s : ByteArray) (w : World) (e : Ending) (w' : World) : Prop := ∃ r : Nat, IsNamed s r ∧ e = .returned (.int .i64 r) ∧ Below w.heap.size w w'
end Go.Proofs.Ytnngldkpkhabeaa.Flt
namespace Go.Proofs.Ytnngldkpkhabeaa.Flt

open Go.RowKit Go.PlainAid

theorem chain_below (w : World) (o1 o2 o3 o4 o5 : Obj) : Below w.heap.size w (((((w.alloc o5).alloc o1).alloc o2).alloc o3).alloc o4) :=
  Below.alloc (Below.alloc (Below.alloc (Below.alloc (Below.alloc (Below.refl _ _) (Nat.le_refl _) _) (by simp) _) (by simp; omega) _) (by simp; omega) _) (by simp; omega) _

end Go.Proofs.Ytnngldkpkhabeaa.Flt

namespace Go.Proofs.Ytnngldkpkhabeaa.Flt

open Go.RowKit Go.PlainAid

def ptrs (gs : List Nat) : List Value := gs.map fun g => .pointer (some ⟨g, 0, none⟩)
def lenOf : Value → Nat
  | .slice _ n _ => n
  | _ => 0
theorem owns_len {w : World} {B e n : Nat} {v : Value} {xs : List Value} (h : w.ownsRow B e 1 v n xs) : lenOf v = n := by
  rcases h.2 with ⟨rfl, rfl⟩ | ⟨g, cap, cur, rfl, _⟩ <;> rfl

theorem owns_kept {w w' : World} {B e size n : Nat} {v : Value} {xs : List Value} (h : w.ownsRow B e size v n xs) (b : Below w.heap.size w w') : w'.ownsRow B e size v n xs := by
  refine ⟨h.1, ?_⟩
  rcases h.2 with h | ⟨g, cap, cur, h1, h2, h3, h4⟩
  · exact .inl h
  · exact .inr ⟨g, cap, cur, h1, h2, (b.block g (lt_of_block h3)).trans h3, h4⟩
end Go.Proofs.Ytnngldkpkhabeaa.Flt

namespace Go.Proofs.Ytnngldkpkhabeaa.Flt

open Go.RowKit Go.PlainAid

/-- The outermost section, the outermost place. -/
def secOf : List (Bool × Int) → Int
  | [] => 0
  | (true, n) :: _ => n
  | (false, _) :: r => secOf r
def atOf : List (Bool × Int) → Int
  | [] => 0
  | (false, n) :: _ => n
  | (true, _) :: r => atOf r
def fltV (k s a : Int) : Value := .agg #[.int .i64 k, .int .i64 s, .int .i64 a]

/-- A slice of pointers that reads as the blocks gs. -/
def IsPtrs (w : World) (A : Option Addr) (gs : List Nat) : Prop := ∀ i (h : i < gs.length), ∃ r, A = some ⟨r, 0, none⟩ ∧ w.cell? ⟨r, i, none⟩ = some (.pointer (some ⟨gs[i], 0, none⟩))
theorem IsPtrs.kept {w w' : World} {A : Option Addr} {gs : List Nat} (h : IsPtrs w A gs) (b : Below w.heap.size w w') : IsPtrs w' A gs := by
  intro i hi
  obtain ⟨r, e, hc⟩ := h i hi
  exact ⟨r, e, (b.cell (Go.block_lt_of_cell hc)).trans hc⟩
theorem sec_drop (ws : List (Bool × Int)) (j : Nat) (h : j < ws.length) : secOf (ws.drop j) = if ws[j].1 then ws[j].2 else secOf (ws.drop (j + 1)) := by
  rw [List.drop_eq_getElem_cons h]
  rcases ws[j] with ⟨b, n⟩
  cases b <;> rfl
theorem at_drop (ws : List (Bool × Int)) (j : Nat) (h : j < ws.length) : atOf (ws.drop j) = if ws[j].1 then atOf (ws.drop (j + 1)) else ws[j].2 := by
  rw [List.drop_eq_getElem_cons h]
  rcases ws[j] with ⟨b, n⟩
  cases b <;> rfl
def fltCells (k s a : Int) : Array Value := #[.int .i64 k, .int .i64 s, .int .i64 a]
theorem one_flt (k s a : Int) : (#[Value.int .i64 k, .int .i64 s, .int .i64 a]).all (·.oneCell') = true := by simp [Value.oneCell']

end Go.Proofs.Ytnngldkpkhabeaa.Flt
namespace Go.Proofs.Ytnngldkpkhabeaa.Flt

open Go.RowKit Go.PlainAid

end Go.Proofs.Ytnngldkpkhabeaa.Flt
