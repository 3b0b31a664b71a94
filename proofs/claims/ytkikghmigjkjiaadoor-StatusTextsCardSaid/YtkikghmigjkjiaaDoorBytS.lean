
/- Bytes in slices: what slices.Clone, slices.Grow of nothing and slices.Concat of two hand back. Condition: at most 2 to the power 40 bytes come in. -/

import Derived.Test.YtkikghmigjkjiaaDoorOctW

import Derived.Laws.AppendOwnNone

import Derived.Lib.AppendZerosOnto

import Derived.Lib.AppendZeros

import Derived.Lib.SliceRun

namespace Go.Proofs.YtkikghmigjkjiaaDoor.Byt

open Go.RowKit Go.PlainAid Go.Proofs.YtkikghmigjkjiaaDoor.Oct

set_option linter.unusedVariables false

set_option linter.unusedSimpArgs false

/-- Bytes of the call's own. -/
def OPost (w : World) (n : Nat) (xs : List Int) (e : Ending) (w' : World) : Prop := ∃ V, e = .returned V ∧ w'.ownsRow w.heap.size 5 1 V n (xs.map (Value.int .u8)) ∧ Below w.heap.size w w'
theorem owns_empty (w : World) : (w.alloc (.cells #[] 5)).ownsRow w.heap.size 5 1 (.slice (some ⟨w.heap.size, 0, none⟩) 0 0) 0 [] := by
  have h := owns_block (w := w.alloc (.cells #[] 5)) (B := w.heap.size) (n := 0) (c := 0) (cs := []) (heap_alloc_new _ _) (Nat.le_refl _) rfl (by unfold maxLen; omega)
  exact h
theorem bytes_at {w : World} {a : Addr} {n : Nat} {xs : List Int} (h : IsBytes w (some a) n xs) : ∀ j v, (xs.map (Value.int .u8))[j]? = some v → w.cell? (a.add j) = some v := by
  intro j v hj
  have h0 : 0 < n := by
    rw [← h.1]
    rcases Nat.lt_or_ge j (xs.map (Value.int .u8)).length with hl | hl
    · rw [List.length_map] at hl; omega
    · rw [List.getElem?_eq_none hl] at hj; cases hj
  obtain ⟨ad, e, h2⟩ := h.2 h0
  obtain rfl := Option.some.inj e
  exact h2 j v hj
theorem bytes_kept {w w' : World} {A : Option Addr} {n : Nat} {xs : List Int} (h : IsBytes w A n xs) (b : Below w.heap.size w w') : IsBytes w' A n xs :=
  ⟨h.1, fun hp => by obtain ⟨ad, e1, e2⟩ := h.2 hp; exact ⟨ad, e1, fun j u hj => (b.cell (cell_lt (e2 j u hj))).trans (e2 j u hj)⟩⟩
set_option maxRecDepth 4000 in
set_option maxHeartbeats 400000 in
theorem clone_any (A : Option Addr) (len cap : Nat) (xs : List Int) (w : World) (hx : IsBytes w A len xs) (hnil : A = none → len = 0 ∧ cap = 0) (hl : len ≤ 1099511627776) :
    Calls Tryd.prog 16 #[.slice A len cap] w (OPost w len xs) := by
  obtain ⟨i0, hi, hz0, hz1, hz2⟩ := info_parts infoU8
  cases A with
  | none =>
    obtain ⟨rfl, rfl⟩ := hnil rfl
    obtain rfl : xs = [] := List.eq_nil_of_length_eq_zero hx.1
    have he : ∀ W, (binOp .eql 22 (.slice none 0 0) (.slice none 0 0)).run Tryd.prog W = .ok (.bool true) W := fun W => Lib.run_eql_slice_nil W _ _ none 0 0 0 0 underU8
    clear hx hnil hl hi
    go_enter Tryd.func16, Tryd.ntmps16
    go_wp2
    go_ret
    exact ⟨_, rfl, World.ownsRow_nil _ _ _ _, Below.refl _ _⟩
  | some a =>
    have hb0 : Below w.heap.size w (w.alloc (.cells #[] 5)) := (Below.refl _ _).alloc (Nat.le_refl _) _
    have HX := Lib.hid (bytes_at (bytes_kept hx hb0))
    have HXL : Hid (xs.length = len) := hx.1
    have HB := Lib.hid hb0
    have HO := Lib.hid (owns_empty w)
    clear hx hnil hb0
    obtain ⟨ab, ao, asp⟩ := a
    have he : ∀ W, (binOp .eql 22 (.slice (some ⟨ab, ao, asp⟩) len cap) (.slice none 0 0)).run Tryd.prog W = .ok (.bool false) W := fun W => Lib.run_eql_slice_nil W _ _ (some ⟨ab, ao, asp⟩) len cap 0 0 underU8
    go_enter Tryd.func16, Tryd.ntmps16
    go_wp2_with (at_builtin; refine wpList_append_own _ rfl _ _ 22 rfl w.heap.size 5 i0 (.int .u8 0) 1 1 underU8 hi hz0 hz1 hz2 rfl (by decide) _ 0 [] rfl HO.out ⟨ab, ao, asp⟩ len cap (xs.map (Value.int .u8)) rfl ?c1 ?c2 ?c3 ?c4 ?c5 ?c6 ?_)
    case c1 => rw [List.length_map, HXL.out, Nat.mul_one]
    case c2 => exact HX.out
    case c3 => exact ints_oneCell _ _
    case c4 => unfold maxLen; omega
    case c5 => omega
    case c6 => simp
    intro v' w2 ho2 hg2 _
    have hb2 := HB.out.grown hg2 (by simp) (fun j hj => by first | (simp [Value.ownBlock] at hj; omega) | exact (ho2.lt j hj).1)
    clear hg2
    go_wp2
    go_ret
    exact ⟨v', rfl, by simpa using ho2, hb2⟩
set_option maxRecDepth 8000 in
set_option maxHeartbeats 800000 in
theorem grow_nil (n : Nat) (h1 : 1 ≤ n) (h2 : n ≤ 2199023255552) (w : World) :
    Calls Tryd.prog 34 #[.slice none 0 0, .int .i64 n] w (OPost w 0 []) := by
  obtain ⟨i0, hi, hz0, hz1, hz2⟩ := info_parts infoU8
  have hold : (Builtin.firstCells i0.size 0 (.slice none 0 0)).run Tryd.prog w.drew = .ok (#[] : Array Value) w.drew := run_firstCells_none w.drew i0.size 0 0 0
  have hrz : ∀ ty, (Builtin.append_ #[22, 3] ty #[.slice none 0 0, .int .i64 n]).run Tryd.prog w = _ := fun ty =>
    Lib.run_append_grow_zeros w 22 3 ty 5 i0 (.int .u8 0) .i64 .i64 underU8 Tryd.underlying3 hi hz0 none 0 0 [] hold n (by omega) (by rw [hz1]; decide) (by omega) (by omega) (by rw [hz2]; omega) (by rw [hz2]; unfold Builtin.nextslicecap; rw [if_pos (by omega)]; omega)
  have hGn : 0 + n ≤ grownCap w (0 + n) 0 5 := grownCap_ge w _ _ _
  obtain ⟨G, hG⟩ : ∃ G, G = grownCap w (0 + n) 0 5 := ⟨_, rfl⟩
  rw [← hG] at hrz hGn
  have hGm : G ≤ maxLen := by rw [hG]; exact grownCap_le_maxLen w (0 + n) 0 _ (by unfold maxLen; omega)
  obtain ⟨cur, hcur⟩ : ∃ cur, cur = (([] : List Value).toArray ++ Builtin.zeroCells (Value.int .u8 0).cells n ++ Builtin.zeroCells (Value.int .u8 0).cells (G - (0 + n))) := ⟨_, rfl⟩
  rw [← hcur] at hrz
  have hcs : cur.size = G := by rw [hcur]; simp [Builtin.zeroCells, Value.cells]; omega
  rw [Nat.zero_add] at hrz hGn
  have HOW : Hid ((w.drew.alloc (.cells cur 5)).ownsRow w.heap.size 5 1 (.slice (some ⟨w.heap.size, 0, none⟩) 0 G) 0 []) := by
    have h := owns_block (w := w.drew.alloc (.cells cur 5)) (B := w.heap.size) (n := 0) (c := G) (cs := cur.toList) (by rw [Array.toArray_toList]; exact heap_alloc_new w.drew _) (Nat.zero_le _) (by simpa using hcs) hGm
    show World.ownsRow _ _ _ _ _ _ _
    simpa using h
  have HBB : Hid (Below w.heap.size w (w.drew.alloc (.cells cur 5))) := ((Below.refl w.heap.size w).drew).alloc (Nat.le_refl _) _
  have hn0 : (0 : Int) < n := by omega
  have hGi : G ≤ 9223372036854775807 := hGm
  clear hold hG hcur hcs hGm
  go_enter Tryd.func34, Tryd.ntmps34
  go_wp2_with (at_builtin; refine Lib.wpList_append_run _ rfl _ _ _ _ rfl _ _ rfl rfl _ _ (hrz _) ?_)
  go_ret
  exact ⟨_, rfl, HOW.out, HBB.out⟩
def catN (len m : Nat) : Nat → Nat
  | 0 => 0
  | 1 => len
  | _ => len + m
def catL (xs ys : List Int) : Nat → List Int
  | 0 => []
  | 1 => xs
  | _ => xs ++ ys
set_option maxRecDepth 8000 in
set_option maxHeartbeats 1600000 in
theorem concat_any (X : Nat) (A : Option Addr) (len cap : Nat) (xs : List Int) (g m c : Nat) (ys : List Int) (w : World) (h0 : w.cell? ⟨X, 0, none⟩ = some (.slice A len cap)) (h1 : w.cell? ⟨X, 1, none⟩ = some (.slice (some ⟨g, 0, none⟩) m c))
    (hx : IsBytes w A len xs) (hy : IsBytes w (some ⟨g, 0, none⟩) m ys) (hnil : A = none → len = 0 ∧ cap = 0) (hl : len ≤ 1099511627776) (hm : 1 ≤ m) (hm2 : m ≤ 1000) :
    Calls Tryd.prog 20 #[.slice (some ⟨X, 0, none⟩) 2 2] w (OPost w (len + m) (xs ++ ys)) := by
  obtain ⟨i0, hi, hz0, hz1, hz2⟩ := info_parts infoU8
  have H0 := Lib.hid h0
  have H1 := Lib.hid h1
  have HX := Lib.hid hx
  have HY := Lib.hid hy
  have HN := Lib.hid hnil
  have hxl : xs.length = len := hx.1
  have hyl : ys.length = m := hy.1
  have HXL := Lib.hid hxl
  have HYL := Lib.hid hyl
  have hsum : (len : Int) + m ≤ 2199023255552 := by omega
  clear h0 h1 hx hy hnil hxl hyl
  go_enter Tryd.func20, Tryd.ntmps20
  go_wp2
  go_loop [3, 11] (fun s i => ∃ k : Nat, k ≤ 2 ∧ i = .int .i64 k ∧ s = .int .i64 (catN len m k)) (fun _ i => 2 - (intOf i).toNat)
  case atStart => exact ⟨0, by omega, rfl, rfl⟩
  case round =>
    obtain ⟨k, hk, rfl, rfl⟩ := hrel
    rcases (show k = 0 ∨ k = 1 ∨ k = 2 by omega) with rfl | rfl | rfl
    · have h0 := H0.out
      rw [show catN len m 0 = 0 from rfl]
      have hs : IntKind.i64.wrap (((0 : Nat) : Int) + (len : Int)) = (len : Int) := by rw [IntKind.wrap_i64]; omega
      go_wp2
      go_round
      case rel => exact ⟨1, by omega, rfl, by first | rfl | go_num | simp [catN]⟩
      case measure => simp [intOf]
    · have h1 := H1.out
      rw [show catN len m 1 = len from rfl]
      go_wp2
      go_round
      case rel => exact ⟨2, by omega, rfl, by first | rfl | go_num | simp [catN]⟩
      case measure => simp [intOf]
    · rw [show catN len m 2 = len + m from rfl]
      have HG : Hid (∀ w, Calls Tryd.prog 34 #[.slice none 0 0, .int .i64 ((len : Int) + (m : Int))] w (OPost w 0 [])) := fun w => by
        rw [← Int.natCast_add]; exact grow_nil (len + m) (by omega) (by omega) w
      go_wp2_with fail
      refine (HG.out w).mono ?_
      rintro e w1 ⟨V0, rfl, ho0, hb0⟩
      have HO0 := Lib.hid ho0
      have HB0 := Lib.hid hb0
      clear ho0 hb0 HG
      go_wp2
      go_loopw [6, 27] (fun v i wr => ∃ k : Nat, k ≤ 2 ∧ i = .int .i64 k ∧ wr.ownsRow w.heap.size 5 1 v (catN len m k) ((catL xs ys k).map (Value.int .u8)) ∧ Below w.heap.size w wr) (fun _ i _ => 2 - (intOf i).toNat)
      case atStart => exact ⟨0, by omega, rfl, HO0.out, HB0.out⟩
      case round =>
        obtain ⟨k, hk, rfl, ho, hb⟩ := hrel
        have HO := Lib.hid ho
        have HB := Lib.hid hb
        clear HO0 HB0
        rcases (show k = 0 ∨ k = 1 ∨ k = 2 by omega) with rfl | rfl | rfl
        · have hc0 : wr.cell? ⟨X, 0, none⟩ = some (.slice A len cap) := (hb.cell (p := ⟨X, 0, none⟩) (Go.block_lt_of_cell H0.out)).trans H0.out
          cases A with
          | none =>
            obtain ⟨rfl, rfl⟩ := HN.out rfl
            have HXE : Hid (xs = []) := List.eq_nil_of_length_eq_zero HXL.out
            clear ho hb
            go_wp2_with (at_builtin; refine wpList_append_own_none rfl _ _ 22 rfl w.heap.size 5 i0 1 underU8 hi _ _ _ rfl HO.out rfl ?_)
            go_roundw
            case rel => exact ⟨_, _, _, ⟨1, by omega, rfl, by rw [show catL xs ys 1 = [] from HXE.out]; exact HO.out, HB.out⟩, rfl, rfl, rfl⟩
            case measure => simp [intOf]
          | some a =>
            have HA := Lib.hid (bytes_at (bytes_kept HX.out HB.out))
            obtain ⟨ab, ao, asp⟩ := a
            clear ho hb
            go_wp2_with (at_builtin; refine wpList_append_own _ rfl _ _ 22 rfl w.heap.size 5 i0 (.int .u8 0) 1 1 underU8 hi hz0 hz1 hz2 rfl (by decide) _ _ _ rfl HO.out ⟨ab, ao, asp⟩ len cap (xs.map (Value.int .u8)) rfl ?c1 ?c2 ?c3 ?c4 ?c5 ?c6 ?_)
            case c1 => rw [List.length_map, HXL.out, Nat.mul_one]
            case c2 => exact HA.out
            case c3 => exact ints_oneCell _ _
            case c4 => rw [show catN len m 0 = 0 from rfl]; unfold maxLen; omega
            case c5 => rw [show catN len m 0 = 0 from rfl]; omega
            case c6 => exact HB.out.size
            intro v' w2 ho2 hg2 _
            have HB2 := Lib.hid (HB.out.grown hg2 HB.out.size (fun j hj => (HO.out.lt j hj).1))
            have HO2 : Hid (w2.ownsRow w.heap.size 5 1 v' (catN len m 1) ((catL xs ys 1).map (Value.int .u8))) := by
              have h := ho2
              rw [show catN len m 0 + len = catN len m 1 by simp [catN]] at h
              exact h
            clear hg2 ho2
            go_wp2
            go_roundw
            case rel => exact ⟨1, by omega, rfl, HO2.out, HB2.out⟩
            case measure => simp [intOf]
        · have hc1 : wr.cell? ⟨X, 1, none⟩ = some (.slice (some ⟨g, 0, none⟩) m c) := (hb.cell (p := ⟨X, 1, none⟩) (Go.block_lt_of_cell H1.out)).trans H1.out
          have HA := Lib.hid (bytes_at (bytes_kept HY.out HB.out))
          clear ho hb
          go_wp2_with (at_builtin; refine wpList_append_own _ rfl _ _ 22 rfl w.heap.size 5 i0 (.int .u8 0) 1 1 underU8 hi hz0 hz1 hz2 rfl (by decide) _ _ _ rfl HO.out ⟨g, 0, none⟩ m c (ys.map (Value.int .u8)) rfl ?c1 ?c2 ?c3 ?c4 ?c5 ?c6 ?_)
          case c1 => rw [List.length_map, HYL.out, Nat.mul_one]
          case c2 => exact HA.out
          case c3 => exact ints_oneCell _ _
          case c4 => rw [show catN len m 1 = len from rfl]; unfold maxLen; omega
          case c5 => rw [show catN len m 1 = len from rfl]; omega
          case c6 => exact HB.out.size
          intro v' w2 ho2 hg2 _
          have HB2 := Lib.hid (HB.out.grown hg2 HB.out.size (fun j hj => (HO.out.lt j hj).1))
          have HO2 : Hid (w2.ownsRow w.heap.size 5 1 v' (catN len m 2) ((catL xs ys 2).map (Value.int .u8))) := by
            have h := ho2
            rw [← List.map_append] at h
            exact h
          clear hg2 ho2
          go_wp2
          go_roundw
          case rel => exact ⟨2, by omega, rfl, HO2.out, HB2.out⟩
          case measure => simp [intOf]
        · clear ho hb
          go_wp2
          go_ret
          exact ⟨_, rfl, HO.out, HB.out⟩
end Go.Proofs.YtkikghmigjkjiaaDoor.Byt
