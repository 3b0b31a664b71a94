
/- What package parts' Same, Find and Clone say. Condition: none of their own. What the clones of cells and of partitions are. Condition: none of their own. -/

import Derived.Test.YtbcjkongcnpdlaaDoorPrtL

import Derived.BigQuiet

import Derived.BigRegion

namespace Go.Proofs.YtbcjkongcnpdlaaDoor.Prt

open Go.RowKit Go.PlainAid Go.Proofs.YtbcjkongcnpdlaaDoor.Oct Go.Proofs.YtbcjkongcnpdlaaDoor.Flt Go.Proofs.YtbcjkongcnpdlaaDoor.Rdr Go.Proofs.YtbcjkongcnpdlaaDoor.Nam

set_option linter.unusedVariables false

set_option linter.unusedSimpArgs false

/-- The first place of an id. -/
def fiN (id : Int) : List PT → Option Nat
  | [] => none
  | x :: l => if x.id == id then some 0 else (fiN id l).map (· + 1)
theorem fi_hit (id : Int) : ∀ (l : List PT) (k : Nat) (x : PT), l[k]? = some x → (x.id == id) = true → (∀ (j : Nat) (y : PT), j < k → l[j]? = some y → (y.id == id) = false) → fiN id l = some k
  | [], k, x, h, _, _ => by simp at h
  | y :: l, 0, x, h, hx, _ => by
    obtain rfl : y = x := by simpa using h
    rw [fiN, if_pos hx]
  | y :: l, k + 1, x, h, hx, hall => by
    have h0 := hall 0 y (by omega) (by simp)
    rw [fiN, if_neg (by simp [h0]), fi_hit id l k x (by simpa using h) hx (fun j z hj hz => hall (j + 1) z (by omega) (by simpa using hz))]
    rfl
theorem fi_none (id : Int) : ∀ (l : List PT), (∀ (j : Nat) (y : PT), l[j]? = some y → (y.id == id) = false) → fiN id l = none
  | [], _ => rfl
  | y :: l, hall => by
    have h0 := hall 0 y (by simp)
    rw [fiN, if_neg (by simp [h0]), fi_none id l (fun j z hz => hall (j + 1) z (by simpa using hz))]
    rfl
def fiI : Option Nat → Int
  | none => -1
  | some k => k
def IRel (l : List PT) (id : Int) (w : World) (i : Value) (wr : World) : Prop := ∃ k : Nat, k ≤ l.length ∧ i = .int .i64 k ∧ (∀ (j : Nat) (y : PT), j < k → l[j]? = some y → (y.id == id) = false) ∧ Below w.heap.size w wr
theorem fi_lt (id : Int) : ∀ (l : List PT) (k : Nat), fiN id l = some k → k < l.length
  | [], k, h => by cases h
  | y :: l, k, h => by
    rw [fiN] at h
    split at h
    · obtain rfl := Option.some.inj h; simp
    · obtain ⟨j, hj, rfl⟩ := Option.map_eq_some_iff.1 h
      have := fi_lt id l j hj
      simp; omega
def fiV (o : Option Nat) : Nat := o.getD 0
end Go.Proofs.YtbcjkongcnpdlaaDoor.Prt

namespace Go.Proofs.YtbcjkongcnpdlaaDoor.Prt

open Go.RowKit Go.PlainAid Go.Proofs.YtbcjkongcnpdlaaDoor.Oct Go.Proofs.YtbcjkongcnpdlaaDoor.Flt Go.Proofs.YtbcjkongcnpdlaaDoor.Rdr Go.Proofs.YtbcjkongcnpdlaaDoor.Nam

set_option linter.unusedVariables false

set_option linter.unusedSimpArgs false

theorem add_more (y : Addr) (n m : Nat) (h : 0 < m) : (⟨(y.add n).block, (y.add n).off + m, none⟩ : Addr) = y.add (n + m) := by
  obtain ⟨b, o, s⟩ := y
  cases n with
  | zero => cases m with
    | zero => omega
    | succ m => simp [Addr.add]
  | succ n => cases m with
    | zero => omega
    | succ m => simp [Addr.add]; omega
theorem cells_flat {w : World} {y : Addr} {l : List C2} (h : CellsAt w (some y) l) : ∀ j v, (flatC l)[j]? = some v → w.cell? (y.add j) = some v := by
  intro j v hj
  have hjl : j < l.length * 2 := by rw [← flatC_len]; exact (List.getElem?_eq_some_iff.1 hj).1
  obtain ⟨x, hx⟩ : ∃ x, l[j / 2]? = some x := ⟨_, List.getElem?_eq_getElem (by omega)⟩
  obtain ⟨y', hy, c1, c2⟩ := h (j / 2) x hx
  obtain rfl := Option.some.inj hy
  have hg := flatC_get l (j / 2) x (j % 2) hx (by omega)
  rw [show j / 2 * 2 + j % 2 = j by omega, hj] at hg
  rcases (show j % 2 = 0 ∨ j % 2 = 1 by omega) with h0 | h0
  · rw [h0] at hg
    rw [show j = j / 2 * 2 by omega, c1]
    exact hg.symm
  · rw [h0] at hg
    rw [add_more _ _ _ (by omega)] at c2
    rw [show j = j / 2 * 2 + 1 by omega, c2]
    exact hg.symm
theorem flatC_one (l : List C2) : ∀ v ∈ flatC l, v.oneCell' = true := by
  intro v hv
  obtain ⟨x, _, hx⟩ := List.mem_flatMap.1 hv
  simp [celL] at hx
  rcases hx with rfl | rfl <;> rfl
end Go.Proofs.YtbcjkongcnpdlaaDoor.Prt

namespace Go.Proofs.YtbcjkongcnpdlaaDoor.Prt

open Go.RowKit Go.PlainAid Go.Proofs.YtbcjkongcnpdlaaDoor.Oct Go.Proofs.YtbcjkongcnpdlaaDoor.Flt Go.Proofs.YtbcjkongcnpdlaaDoor.Rdr Go.Proofs.YtbcjkongcnpdlaaDoor.Nam

open Go.Proofs.YtbcjkongcnpdlaaDoor.Act (list_of row_beside row_base)

set_option linter.unusedVariables false

set_option linter.unusedSimpArgs false

/-- A partition whose cells' slice is this value. -/
def QAt (w : World) (q : PT × Value) : Prop := ∃ B c, q.2 = .slice B q.1.cs.length c ∧ CellsAt w B q.1.cs ∧ (B = none → c = 0) ∧ q.1.cs.length ≤ c ∧ c ≤ maxLen
theorem QAt.kept {w w' : World} {q : PT × Value} (h : QAt w q) (b : Below w.heap.size w w') : QAt w' q := by
  obtain ⟨B, c, h1, h2, h3⟩ := h
  exact ⟨B, c, h1, h2.kept b, h3⟩
theorem flatQ_len (L : List (PT × Value)) : (flatQ L).length = L.length * 4 := by
  induction L with
  | nil => rfl
  | cons x l ih => simp [flatQ] at ih ⊢; omega
theorem parts_flat {w : World} {y : Addr} {l : List PT} (h : PartsAt w (some y) l) : ∃ L : List (PT × Value), L.map Prod.fst = l ∧ (∀ q ∈ L, QAt w q) ∧ ∀ j v, (flatQ L)[j]? = some v → w.cell? (y.add j) = some v := by
  obtain ⟨L, hL, hp⟩ := list_of (fun i (q : PT × Value) => l[i]? = some q.1 ∧ QAt w q ∧ w.cell? (y.add (i * 4)) = some (.int .i64 q.1.id) ∧ w.cell? (y.add (i * 4 + 1)) = some (.string q.1.nm) ∧ w.cell? (y.add (i * 4 + 2)) = some (.bool q.1.may) ∧ w.cell? (y.add (i * 4 + 3)) = some q.2) l.length (by
    intro i hi
    have hx : l[i]? = some l[i] := List.getElem?_eq_getElem hi
    obtain ⟨y', B, c, hy, c1, c2, c3, c4, h5⟩ := h i _ hx
    obtain rfl := Option.some.inj hy
    rw [add_more _ _ _ (by omega)] at c2 c3 c4
    exact ⟨(l[i], .slice B l[i].cs.length c), hx, ⟨B, c, rfl, h5⟩, c1, c2, c3, c4⟩)
  refine ⟨L, ?_, fun q hq => ?_, fun j v hj => ?_⟩
  · apply List.ext_getElem?
    intro i
    rw [List.getElem?_map]
    rcases Nat.lt_or_ge i L.length with hi | hi
    · have hx : L[i]? = some L[i] := List.getElem?_eq_getElem hi
      rw [hx, (hp i _ hx).1]; rfl
    · rw [List.getElem?_eq_none hi, List.getElem?_eq_none (by omega)]; rfl
  · obtain ⟨i, hi, rfl⟩ := List.mem_iff_getElem.1 hq
    exact (hp i _ (List.getElem?_eq_getElem hi)).2.1
  · have hjl : j < L.length * 4 := by rw [← flatQ_len]; exact (List.getElem?_eq_some_iff.1 hj).1
    obtain ⟨q, hq⟩ : ∃ q, L[j / 4]? = some q := ⟨_, List.getElem?_eq_getElem (by omega)⟩
    obtain ⟨_, _, c1, c2, c3, c4⟩ := hp _ q hq
    have hg := flatQ_get L (j / 4) q (j % 4) hq (by omega)
    rw [show j / 4 * 4 + j % 4 = j by omega, hj] at hg
    rcases (show j % 4 = 0 ∨ j % 4 = 1 ∨ j % 4 = 2 ∨ j % 4 = 3 by omega) with h0 | h0 | h0 | h0
    · rw [h0] at hg; rw [show j = j / 4 * 4 by omega, c1]; exact hg.symm
    · rw [h0] at hg; rw [show j = j / 4 * 4 + 1 by omega, c2]; exact hg.symm
    · rw [h0] at hg; rw [show j = j / 4 * 4 + 2 by omega, c3]; exact hg.symm
    · rw [h0] at hg; rw [show j = j / 4 * 4 + 3 by omega, c4]; exact hg.symm
theorem flatQ_one {w : World} (L : List (PT × Value)) (h : ∀ q ∈ L, QAt w q) : ∀ v ∈ flatQ L, v.oneCell' = true := by
  intro v hv
  obtain ⟨x, hm, hx⟩ := List.mem_flatMap.1 hv
  obtain ⟨B, c, e, _⟩ := h x hm
  rw [e] at hx
  simp at hx
  rcases hx with rfl | rfl | rfl | rfl <;> rfl
theorem flatQ_set : ∀ (L : List (PT × Value)) (k : Nat) (q : PT × Value) (u : Value), L[k]? = some q → (flatQ L).set (k * 4 + 3) u = flatQ (L.set k (q.1, u))
  | [], k, q, u, h => by simp at h
  | y :: l, 0, q, u, h => by
    obtain rfl : y = q := by simpa using h
    simp [flatQ]
  | y :: l, k + 1, q, u, h => by
    have ih := flatQ_set l k q u (by simpa using h)
    have e : ∀ L : List (PT × Value), flatQ (y :: L) = [.int .i64 y.1.id, .string y.1.nm, .bool y.1.may, y.2] ++ flatQ L := fun _ => rfl
    rw [List.set_cons_succ, e, e, ← ih, List.set_append_right _ _ (by simp; omega)]
    congr 2
    simp; omega
end Go.Proofs.YtbcjkongcnpdlaaDoor.Prt
