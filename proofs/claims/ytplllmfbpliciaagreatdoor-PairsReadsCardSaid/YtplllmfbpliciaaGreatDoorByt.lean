
/- Bytes in slices: what slices.Clone, slices.Grow of nothing and slices.Concat of two hand back. Condition: at most 2 to the power 40 bytes come in. -/

import Derived.Test.YtplllmfbpliciaaGreatDoorNamP

import Derived.Laws.AppendOwnNone

import Derived.Lib.AppendZerosOnto

import Derived.Lib.AppendZeros

import Derived.Lib.SliceRun

namespace Go.Proofs.YtplllmfbpliciaaGreatDoor.Byt

open Go.RowKit Go.PlainAid Go.Proofs.YtplllmfbpliciaaGreatDoor.Oct Go.Proofs.YtplllmfbpliciaaGreatDoor.Nam

set_option linter.unusedVariables false

set_option linter.unusedSimpArgs false

/-- Bytes of the call's own. -/
def OPost (w : World) (n : Nat) (xs : List Int) (e : Ending) (w' : World) : Prop := ∃ V, e = .returned V ∧ w'.ownsRow w.heap.size 5 1 V n (xs.map (Value.int .u8)) ∧ Below w.heap.size w w'
theorem owns_empty (w : World) : (w.alloc (.cells #[] 5)).ownsRow w.heap.size 5 1 (.slice (some ⟨w.heap.size, 0, none⟩) 0 0) 0 [] := by
  have h := owns_block (w := w.alloc (.cells #[] 5)) (B := w.heap.size) (n := 0) (c := 0) (cs := []) (heap_alloc_new _ _) (Nat.le_refl _) rfl (by unfold maxLen; omega)
  exact h
theorem bytes_at {w : World} {a : Addr} {n : Nat} {xs : List Int} (h : IsBytes w (some a) n xs) : ∀ j v, (xs.map (Value.int .u8))[j]? = some v → w.cell? (a.add j) = some v := by
  intro j v hj
  have h0 : 0 < n := by
    rw [← h.1]
    rcases Nat.lt_or_ge j (xs.map (Value.int .u8)).length with hl | hl
    · rw [List.length_map] at hl; omega
    · rw [List.getElem?_eq_none hl] at hj; cases hj
  obtain ⟨ad, e, h2⟩ := h.2 h0
  obtain rfl := Option.some.inj e
  exact h2 j v hj
theorem bytes_kept {w w' : World} {A : Option Addr} {n : Nat} {xs : List Int} (h : IsBytes w A n xs) (b : Below w.heap.size w w') : IsBytes w' A n xs :=
  ⟨h.1, fun hp => by obtain ⟨ad, e1, e2⟩ := h.2 hp; exact ⟨ad, e1, fun j u hj => (b.cell (cell_lt (e2 j u hj))).trans (e2 j u hj)⟩⟩
set_option maxRecDepth 4000 in
set_option maxHeartbeats 400000 in
theorem clone_any (A : Option Addr) (len cap : Nat) (xs : List Int) (w : World) (hx : IsBytes w A len xs) (hnil : A = none → len = 0 ∧ cap = 0) (hl : len ≤ 1099511627776) :
    Calls Tryz.prog 17 #[.slice A len cap] w (OPost w len xs) := by
  obtain ⟨i0, hi, hz0, hz1, hz2⟩ := info_parts infoU8
  cases A with
  | none =>
    obtain ⟨rfl, rfl⟩ := hnil rfl
    obtain rfl : xs = [] := List.eq_nil_of_length_eq_zero hx.1
    have he : ∀ W, (binOp .eql 22 (.slice none 0 0) (.slice none 0 0)).run Tryz.prog W = .ok (.bool true) W := fun W => Lib.run_eql_slice_nil W _ _ none 0 0 0 0 underU8
    clear hx hnil hl hi
    go_enter Tryz.func17, Tryz.ntmps17
    go_wp2
    go_ret
    exact ⟨_, rfl, World.ownsRow_nil _ _ _ _, Below.refl _ _⟩
  | some a =>
    have hb0 : Below w.heap.size w (w.alloc (.cells #[] 5)) := (Below.refl _ _).alloc (Nat.le_refl _) _
    have HX := Lib.hid (bytes_at (bytes_kept hx hb0))
    have HXL : Hid (xs.length = len) := hx.1
    have HB := Lib.hid hb0
    have HO := Lib.hid (owns_empty w)
    clear hx hnil hb0
    obtain ⟨ab, ao, asp⟩ := a
    have he : ∀ W, (binOp .eql 22 (.slice (some ⟨ab, ao, asp⟩) len cap) (.slice none 0 0)).run Tryz.prog W = .ok (.bool false) W := fun W => Lib.run_eql_slice_nil W _ _ (some ⟨ab, ao, asp⟩) len cap 0 0 underU8
    go_enter Tryz.func17, Tryz.ntmps17
    go_wp2_with (at_builtin; refine wpList_append_own _ rfl _ _ 22 rfl w.heap.size 5 i0 (.int .u8 0) 1 1 underU8 hi hz0 hz1 hz2 rfl (by decide) _ 0 [] rfl HO.out ⟨ab, ao, asp⟩ len cap (xs.map (Value.int .u8)) rfl ?c1 ?c2 ?c3 ?c4 ?c5 ?c6 ?_)
    case c1 => rw [List.length_map, HXL.out, Nat.mul_one]
    case c2 => exact HX.out
    case c3 => exact ints_oneCell _ _
    case c4 => unfold maxLen; omega
    case c5 => omega
    case c6 => simp
    intro v' w2 ho2 hg2 _
    have hb2 := HB.out.grown hg2 (by simp) (fun j hj => by first | (simp [Value.ownBlock] at hj; omega) | exact (ho2.lt j hj).1)
    clear hg2
    go_wp2
    go_ret
    exact ⟨v', rfl, by simpa using ho2, hb2⟩
def catN (len m : Nat) : Nat → Nat
  | 0 => 0
  | 1 => len
  | _ => len + m
def catL (xs ys : List Int) : Nat → List Int
  | 0 => []
  | 1 => xs
  | _ => xs ++ ys
end Go.Proofs.YtplllmfbpliciaaGreatDoor.Byt
