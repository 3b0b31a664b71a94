
/- What package header's Put lays behind bytes. Condition: the variables hold what the program lays there; at most 2 to the power 30 bytes come in. -/

import Derived.Test.YtlbpmbdogkfecaaDoorHdrC

import Derived.Test.YtlbpmbdogkfecaaDoorByt

import Derived.IntWalk

import Derived.Lib.SlBytesConst

namespace Go.Proofs.YtlbpmbdogkfecaaDoor.Hdr

open Go.RowKit Go.PlainAid Go.Proofs.YtlbpmbdogkfecaaDoor.Oct Go.Proofs.YtlbpmbdogkfecaaDoor.Flt Go.Proofs.YtlbpmbdogkfecaaDoor.Rdr Go.Proofs.YtlbpmbdogkfecaaDoor.Byt

set_option linter.unusedVariables false

set_option linter.unusedSimpArgs false

theorem owns_base {w : World} {B B' n : Nat} {v : Value} {xs : List Value} (h : w.ownsRow B 5 1 v n xs) (hb : B' ≤ B) : w.ownsRow B' 5 1 v n xs := by
  obtain ⟨e1, e2⟩ := h
  refine ⟨e1, ?_⟩
  rcases e2 with h | ⟨g, c, cur, h1, h2, h3⟩
  · exact .inl h
  · exact .inr ⟨g, c, cur, h1, Nat.le_trans hb h2, h3⟩
/-- What Put hands back where something is wrong. -/
def HNo (h : H7) (w : World) (n : Nat) (xs : List Int) (e : Ending) (w' : World) : Prop :=
  ∃ V x, e = .returned (.tuple #[V, x]) ∧ w'.ownsRow w.heap.size 5 1 V n (xs.map (Value.int .u8)) ∧ Wrong w' x (bad h).1 (sec1 (bad h).1) (bad h).2 ∧ Below w.heap.size w w'
theorem iface_of_wrong {w : World} {x : Value} {k : Nat} {s a : Int} (h : Wrong w x k s a) (hk : k ≠ 0) : ∃ u y, x = .iface u y := by
  rcases h with ⟨h1, _⟩ | ⟨_, _, h3⟩
  · exact absurd h1 hk
  · exact err_of h3
/-- A header's numbers and their sizes, in their order. -/
def fldF (tot ep fi a b c d : Nat) : Nat → Nat × Nat
  | 0 => (tot, 4)
  | 1 => (ep, 8)
  | 2 => (fi, 1)
  | 3 => (a, 1)
  | 4 => (b, 1)
  | 5 => (c, 2)
  | _ => (d, 2)
def accB (F : Nat → Nat × Nat) : Nat → List Int
  | 0 => [67, 87, 77, 49]
  | k + 1 => accB F k ++ low (F k).1 (F k).2
theorem own_bytes {w : World} {B g n c : Nat} {xs : List Int} (h : w.ownsRow B 5 1 (.slice (some ⟨g, 0, none⟩) n c) n (xs.map (Value.int .u8))) : IsBytes w (some ⟨g, 0, none⟩) n xs := by
  have hl : xs.length = n := by have := h.1; simpa using this
  refine ⟨hl, fun _ => ⟨⟨g, 0, none⟩, rfl, fun j v hj => ?_⟩⟩
  have hjn : j < n := by
    rcases Nat.lt_or_ge j (xs.map (Value.int .u8)).length with hh | hh
    · rw [List.length_map] at hh; omega
    · rw [List.getElem?_eq_none hh] at hj; cases hj
  have := h.cellAt j (by omega)
  have e : (Addr.mk g 0 none).add j = ⟨g, j, none⟩ := by cases j <;> simp [Addr.add]
  rw [e, this, hj]
/-- Bytes of the call's own, and no error. -/
def HYes (w : World) (n : Nat) (xs : List Int) (e : Ending) (w' : World) : Prop :=
  ∃ V, e = .returned (.tuple #[V, .nilIface]) ∧ w'.ownsRow w.heap.size 5 1 V n (xs.map (Value.int .u8)) ∧ Below w.heap.size w w'
def PRel (F : Nat → Nat × Nat) (w : World) (v i : Value) (wr : World) : Prop :=
  ∃ k g n c : Nat, k ≤ 7 ∧ i = .int .i64 k ∧ v = .slice (some ⟨g, 0, none⟩) n c ∧ n ≤ 4 + 8 * k ∧ 1 ≤ n ∧ IsBytes wr (some ⟨g, 0, none⟩) n (accB F k) ∧ Below w.heap.size w wr
end Go.Proofs.YtlbpmbdogkfecaaDoor.Hdr
