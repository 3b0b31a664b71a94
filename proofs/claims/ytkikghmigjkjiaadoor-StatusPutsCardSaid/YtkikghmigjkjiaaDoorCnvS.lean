
/- Bytes that came in, and bytes of the call's own, as text. No condition. -/

import Derived.Test.YtkikghmigjkjiaaDoorBytS

import Derived.Test.YtkikghmigjkjiaaDoorArgs

import Derived.Test.YtkikghmigjkjiaaDoorOctW

import Derived.ChangeSame

namespace Go.Proofs.YtkikghmigjkjiaaDoor.Byt

open Go.RowKit Go.PlainAid Go.Proofs.YtkikghmigjkjiaaDoor.Args Go.Proofs.YtkikghmigjkjiaaDoor.Oct

set_option linter.unusedVariables false

set_option linter.unusedSimpArgs false

/-- What the walk needs of the bytes that came in: the first 'len' of them. -/
theorem bytes_of {w : World} {a : Option Addr} {len cap : Nat} {zs : List Int} (h : IsRow .u8 w a len cap zs) : ∃ xs, IsBytes w a len xs ∧ (∀ x ∈ xs, 0 ≤ x ∧ x ≤ 255) ∧ (a = none → len = 0 ∧ cap = 0) ∧ len ≤ cap := by
  rcases h with ⟨rfl, rfl, rfl, rfl⟩ | ⟨x, rfl, hl, hm, hz, hcell, hwz⟩
  · exact ⟨[], ⟨rfl, fun h => absurd h (by omega)⟩, by simp, fun _ => ⟨rfl, rfl⟩, Nat.le_refl _⟩
  · refine ⟨zs.take len, ⟨by simp; omega, fun _ => ⟨x, rfl, fun j v hj => ?_⟩⟩, fun y hy => ?_, fun h => (by cases h), hl⟩
    · have hjl : j < len := by
        rcases Nat.lt_or_ge j len with h | h
        · exact h
        · rw [List.getElem?_eq_none (by simp; omega)] at hj; cases hj
      rw [hcell j (by omega)]
      have hz2 : j < zs.length := by omega
      simp [hjl, List.getElem?_eq_getElem hz2] at hj
      subst hj
      simp [List.getD, List.getElem?_eq_getElem hz2]
    · exact bounds_u8 (hwz y (List.mem_of_mem_take hy))
theorem conv_kept {w w' : World} {A : Option Addr} {n cap : Nat} {xs : List Int} (h : IsBytes w A n xs) (b : Below w.heap.size w w') : (convert 22 9 (.slice A n cap)).run Tryd.prog w' = .ok (.string (strOfNums xs)) w' := by
  refine conv_bytes (⟨h.1, fun hp => ?_⟩ : IsBytes w' A n xs)
  obtain ⟨ad, e1, e2⟩ := h.2 hp
  exact ⟨ad, e1, fun j u hj => (b.cell (cell_lt (e2 j u hj))).trans (e2 j u hj)⟩
theorem owns_at {w w' : World} {B g n cap : Nat} {xs : List Value} (h : w.ownsRow B 5 1 (.slice (some ⟨g, 0, none⟩) n cap) n xs) (hx : w'.heap[g]? = w.heap[g]?) : w'.ownsRow B 5 1 (.slice (some ⟨g, 0, none⟩) n cap) n xs := by
  obtain ⟨e1, e2⟩ := h
  refine ⟨e1, ?_⟩
  rcases e2 with ⟨h, _⟩ | ⟨g', c', cur, h, h2⟩
  · cases h
  · cases h
    exact .inr ⟨g, cap, cur, rfl, h2.1, by rw [hx]; exact h2.2.1, h2.2.2⟩
set_option maxRecDepth 8000 in
/-- The bytes behind the first as text. -/
theorem conv_part {w w' : World} {B g n cap c' l m : Nat} {xs ys : List Int} (h : w.ownsRow B 5 1 (.slice (some ⟨g, 0, none⟩) n cap) n ((xs ++ ys).map (Value.int .u8))) (hx : w'.heap[g]? = w.heap[g]?) (hl : xs.length = l) (hm : ys.length = m) :
    (convert 22 9 (.slice (some ⟨g, l, none⟩) m c')).run Tryd.prog w' = .ok (.string (strOfNums ys)) w' := by
  have h' := owns_at h hx
  have hn : xs.length + ys.length = n := by have := h.1; simpa using this
  refine run_convert_bytes_arg (P := Tryd.prog) w' 22 5 underU8 rfl g l m c' ys hm ?_ 9 rfl
  intro i hi
  rw [h'.cellAt (l + i) (by omega)]
  subst hl
  rw [List.map_append, List.getElem?_append_right (by rw [List.length_map]; omega), List.length_map, Nat.add_sub_cancel_left]
  simp [List.getD, List.getElem?_eq_getElem (show i < ys.length by omega)]
set_option maxRecDepth 8000 in
theorem low_slice (w : World) (G l n c : Nat) (h1 : l < n) (h2 : n ≤ c) :
    (Instr.slice 22 (.slice (some ⟨G, 0, none⟩) n c) (some (.int .i64 (l : Int))) none none).run Tryd.prog w = .ok (.slice (some ⟨G, l, none⟩) (n - l) (c - l)) w := by
  have hne : ¬ c = l := by omega
  rw [run_slice_l (P := Tryd.prog) w 22 (some ⟨G, 0, none⟩) n c rfl .i64 (l : Int) (by omega) (by omega)]
  go_simp
theorem owns_kept {w w' : World} {B n : Nat} {v : Value} {xs : List Value} (h : w.ownsRow B 5 1 v n xs) (b : Below w.heap.size w w') : w'.ownsRow B 5 1 v n xs := by
  obtain ⟨e1, e2⟩ := h
  refine ⟨e1, ?_⟩
  rcases e2 with h | ⟨g, c, cur, h1, h2, h3, h4⟩
  · exact .inl h
  · have hlt : g < w.heap.size := by
      rcases Nat.lt_or_ge g w.heap.size with hh | hh
      · exact hh
      · rw [Array.getElem?_eq_none hh] at h3; cases h3
    exact .inr ⟨g, c, cur, h1, h2, (b.block _ hlt).trans h3, h4⟩
/-- Bytes of the call's own, one at least, lie in a block. -/
theorem own_open {w : World} {B n : Nat} {v : Value} {xs : List Int} (h : w.ownsRow B 5 1 v n (xs.map (Value.int .u8))) (hn : 0 < n) : ∃ G c : Nat, v = .slice (some ⟨G, 0, none⟩) n c ∧ B ≤ G ∧ G < w.heap.size ∧ n ≤ c := by
  rcases h.2 with ⟨_, h0⟩ | ⟨g, cap, cur, e1, e2, e3, e4, _⟩
  · omega
  · refine ⟨g, cap, e1, e2, ?_, e4⟩
    rcases Nat.lt_or_ge g w.heap.size with hh | hh
    · exact hh
    · rw [Array.getElem?_eq_none hh] at e3; cases e3
end Go.Proofs.YtkikghmigjkjiaaDoor.Byt
