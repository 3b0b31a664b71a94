
/- A strip in memory: Part. Condition: none. -/

import Derived.Test.YtilkicbokfgjlaaDoorStpG

namespace Go.Proofs.YtilkicbokfgjlaaDoor.Stp

open Go.RowKit Go.PlainAid Go.Proofs.YtilkicbokfgjlaaDoor.Cel

set_option linter.unusedVariables false

set_option linter.unusedSimpArgs false

/-- Behind the end nothing is added. -/
theorem part_skip (f t : Int) : ∀ (l : List RW) (s : Int) (Y : List RW), (∀ x ∈ l, 1 ≤ x.c) → t ≤ max s f → partF f t s l Y = Y
  | [], s, Y, _, _ => rfl
  | x :: l, s, Y, h, ht => by
    have hx := h x (by simp)
    rw [partF, if_neg (by omega)]
    exact part_skip f t l _ Y (fun y hy => h y (by simp [hy])) (by omega)
/-- Ahead of the beginning nothing is added. -/
theorem part_ahead (f t : Int) : ∀ (k : Nat) (l : List RW) (s : Int) (Y : List RW), (∀ x ∈ l, 1 ≤ x.c) → k ≤ l.length → (k = 0 ∨ s + sumR (l.take k) ≤ f) → partF f t s l Y = partF f t (s + sumR (l.take k)) (l.drop k) Y
  | 0, l, s, Y, _, _, _ => by simp [sumR]
  | k + 1, [], s, Y, _, hk, _ => by simp at hk
  | k + 1, x :: l, s, Y, h, hk, hs => by
    have hl : ∀ y ∈ l, 1 ≤ y.c := fun y hy => h y (by simp [hy])
    have hx := h x (by simp)
    have hm := sum_take_mono hl k
    simp only [List.take_succ_cons, sumR] at hs
    rw [partF, if_neg (by omega), part_ahead f t k l (s + x.c) Y hl (by simpa using hk) (by omega)]
    simp only [List.take_succ_cons, sumR, List.drop_succ_cons]
    congr 1
    omega
theorem part_begin {X : List RW} (h : ∀ x ∈ X, 1 ≤ x.c) (f t : Int) : partF f t 0 X [] = partF f t (sumR (X.take (kX (max f 0) 0 X))) (X.drop (kX (max f 0) 0 X)) [] := by
  have hle := kX_le (max f 0) X 0
  obtain ⟨k, hk⟩ : ∃ k, kX (max f 0) 0 X = k := ⟨_, rfl⟩
  rw [hk] at hle ⊢
  have e := part_ahead f t k X 0 [] h hle (by
    rcases Nat.eq_zero_or_pos k with h0 | h0
    · exact .inl h0
    · refine .inr ?_
      have hx : X[k - 1]? = some X[k - 1] := List.getElem?_eq_getElem (by omega)
      have hi := kX_iff (max f 0) X 0 h (k - 1) _ hx
      rw [hk, show k - 1 + 1 = k by omega] at hi
      have h1 : ¬ k ≤ k - 1 := by omega
      have h2 := mt hi.1 h1
      have h3 := sum_ge_len (X := X.take k) fun x hx => h x (List.mem_of_mem_take hx)
      rw [List.length_take, Nat.min_eq_left hle] at h3
      omega)
  rw [e]
  congr 1
  omega
theorem part_step {X : List RW} {k : Nat} {x : RW} (hx : X[k]? = some x) (f t s : Int) (Y : List RW) : partF f t s (X.drop k) Y = partF f t (s + x.c) (X.drop (k + 1)) (if max s f < min (s + x.c) t then addX Y x.i (min (s + x.c) t - max s f) else Y) := by
  have hk := (List.getElem?_eq_some_iff.1 hx).1
  have he := (List.getElem?_eq_some_iff.1 hx).2
  rw [List.drop_eq_getElem_cons hk, he]
  rfl
theorem drop_pos {X : List RW} (h : ∀ x ∈ X, 1 ≤ x.c) (k : Nat) : ∀ x ∈ X.drop k, 1 ≤ x.c := fun x hx => h x (List.mem_of_mem_drop hx)
def PaRel (X : List RW) (f t t' : Int) (F : List RW) (w : World) (t2 : Value) (i a : Value) (wr : World) : Prop :=
  ∃ (k : Nat) (av : Int) (Y : List RW), k ≤ X.length + 1 ∧ i = .int .i64 (k : Int) ∧ a = .int .i64 av ∧ OkX Y ∧ IsSt wr w.heap.size w.heap.size Y ∧ w.heap.size < wr.heap.size ∧ Below w.heap.size w wr ∧
    ((k ≤ X.length ∧ av = max (sumR (X.take k)) (max f 0) ∧ (∀ x, X[k]? = some x → max f 0 < sumR (X.take k) + x.c) ∧ partF f t (sumR (X.take k)) (X.drop k) Y = F) ∨ (t' ≤ av ∧ Y = F))
theorem pa_none {X : List RW} (h : ∀ x ∈ X, 1 ≤ x.c) {f t : Int} {k : Nat} {Y : List RW} (hk : k ≤ X.length) (hg : ∀ x, X[k]? = some x → max f 0 < sumR (X.take k) + x.c) (ha : min t (sumR X) ≤ max (sumR (X.take k)) (max f 0)) : partF f t (sumR (X.take k)) (X.drop k) Y = Y := by
  have h0 := sum_take_mono h k
  rcases Nat.lt_or_ge k X.length with hlt | hge
  · have hx : X[k]? = some X[k] := List.getElem?_eq_getElem hlt
    have h1 := hg _ hx
    have h2 := sum_take_succ hx
    have h3 := sum_take_le h (k + 1)
    have h4 := h X[k] (List.getElem_mem _)
    exact part_skip f t _ _ Y (drop_pos h k) (by omega)
  · rw [List.drop_eq_nil_of_le hge]; rfl
section

variable {w : World} {B g : Nat} {X : List RW}

end

end Go.Proofs.YtilkicbokfgjlaaDoor.Stp
