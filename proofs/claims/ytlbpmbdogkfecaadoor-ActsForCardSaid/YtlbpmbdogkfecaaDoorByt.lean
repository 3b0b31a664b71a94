
/- Bytes in slices: what slices.Clone, slices.Grow of nothing and slices.Concat of two hand back. Condition: at most 2 to the power 40 bytes come in. -/

import Derived.Test.YtlbpmbdogkfecaaDoorNamP

import Derived.Laws.AppendOwnNone

import Derived.Lib.AppendZerosOnto

import Derived.Lib.AppendZeros

import Derived.Lib.SliceRun

namespace Go.Proofs.YtlbpmbdogkfecaaDoor.Byt

open Go.RowKit Go.PlainAid Go.Proofs.YtlbpmbdogkfecaaDoor.Oct Go.Proofs.YtlbpmbdogkfecaaDoor.Nam

set_option linter.unusedVariables false

set_option linter.unusedSimpArgs false

/-- Bytes of the call's own. -/
def OPost (w : World) (n : Nat) (xs : List Int) (e : Ending) (w' : World) : Prop := ∃ V, e = .returned V ∧ w'.ownsRow w.heap.size 5 1 V n (xs.map (Value.int .u8)) ∧ Below w.heap.size w w'
theorem owns_empty (w : World) : (w.alloc (.cells #[] 5)).ownsRow w.heap.size 5 1 (.slice (some ⟨w.heap.size, 0, none⟩) 0 0) 0 [] := by
  have h := owns_block (w := w.alloc (.cells #[] 5)) (B := w.heap.size) (n := 0) (c := 0) (cs := []) (heap_alloc_new _ _) (Nat.le_refl _) rfl (by unfold maxLen; omega)
  exact h
theorem bytes_at {w : World} {a : Addr} {n : Nat} {xs : List Int} (h : IsBytes w (some a) n xs) : ∀ j v, (xs.map (Value.int .u8))[j]? = some v → w.cell? (a.add j) = some v := by
  intro j v hj
  have h0 : 0 < n := by
    rw [← h.1]
    rcases Nat.lt_or_ge j (xs.map (Value.int .u8)).length with hl | hl
    · rw [List.length_map] at hl; omega
    · rw [List.getElem?_eq_none hl] at hj; cases hj
  obtain ⟨ad, e, h2⟩ := h.2 h0
  obtain rfl := Option.some.inj e
  exact h2 j v hj
theorem bytes_kept {w w' : World} {A : Option Addr} {n : Nat} {xs : List Int} (h : IsBytes w A n xs) (b : Below w.heap.size w w') : IsBytes w' A n xs :=
  ⟨h.1, fun hp => by obtain ⟨ad, e1, e2⟩ := h.2 hp; exact ⟨ad, e1, fun j u hj => (b.cell (cell_lt (e2 j u hj))).trans (e2 j u hj)⟩⟩
def catN (len m : Nat) : Nat → Nat
  | 0 => 0
  | 1 => len
  | _ => len + m
def catL (xs ys : List Int) : Nat → List Int
  | 0 => []
  | 1 => xs
  | _ => xs ++ ys
end Go.Proofs.YtlbpmbdogkfecaaDoor.Byt
