
/- Cells of a partition: what they are, the program's New, Set, Get, All, both starts. Condition: at most 1,099,511,627,776 cells. -/

import Derived.Test.YtjdgpbjjhgfikaaProg

import Derived.Test.YtjdgpbjjhgfikaaArgs

import Derived.Test.YtjdgpbjjhgfikaaTwoA

import Derived.WalkKit

import Derived.PlainAid

import Derived.Lib.Hide

import Derived.Deep.CutRange

import Derived.BigQuiet

import Derived.BigRegion

import Derived.Deep.RegionHeld3

import Derived.OwnWalk

import Derived.IntWalk

import Derived.Laws.AppendOwn

import Derived.Laws.OwnMore

import Derived.Lib.SliceRun

namespace Go.Proofs.Ytjdgpbjjhgfikaa.Cel

open Go.RowKit Go.PlainAid Go.Proofs.Ytjdgpbjjhgfikaa.Args

set_option linter.unusedVariables false

set_option linter.unusedSimpArgs false

theorem list_of {α : Type} (P : Nat → α → Prop) : ∀ n, (∀ i, i < n → ∃ x, P i x) → ∃ l : List α, l.length = n ∧ ∀ i x, l[i]? = some x → P i x
  | 0, _ => ⟨[], rfl, fun i x h => by simp at h⟩
  | n + 1, h => by
    obtain ⟨l, hl, hp⟩ := list_of P n fun i hi => h i (by omega)
    obtain ⟨x, hx⟩ := h n (by omega)
    refine ⟨l ++ [x], by simp [hl], fun i y hy => ?_⟩
    rcases Nat.lt_or_ge i l.length with hi | hi
    · rw [List.getElem?_append_left hi] at hy; exact hp i y hy
    · rw [List.getElem?_append_right hi] at hy
      have hi0 : i - l.length = 0 := by
        rcases Nat.eq_zero_or_pos (i - l.length) with h0 | h0
        · exact h0
        · rw [List.getElem?_eq_none (by simp; omega)] at hy; cases hy
      rw [hi0] at hy
      obtain rfl : x = y := by simpa using hy
      rw [show i = n by omega]
      exact hx
/-- A cell: its value at first, whether it is kept. -/
structure C2 where
  v : Nat
  kept : Bool
def celL (x : C2) : List Value := [.int .u32 (x.v : Int), .bool x.kept]
/-- Cells lie at an address. -/
def CellsAt (w : World) (A : Option Addr) (l : List C2) : Prop :=
  ∀ i x, l[i]? = some x → ∃ y, A = some y ∧ w.cell? (y.add (i * 2)) = some (.int .u32 (x.v : Int)) ∧ w.cell? ⟨(y.add (i * 2)).block, (y.add (i * 2)).off + 1, none⟩ = some (.bool x.kept)
theorem CellsAt.kept {w w' : World} {A : Option Addr} {l : List C2} (h : CellsAt w A l) (b : Below w.heap.size w w') : CellsAt w' A l := by
  intro i x hx
  obtain ⟨y, e, h1, h2⟩ := h i x hx
  exact ⟨y, e, (b.cell (Go.block_lt_of_cell h1)).trans h1, (b.cell (Go.block_lt_of_cell h2)).trans h2⟩
theorem cells_of {w : World} {a : Option Addr} {len cap : Nat} (h : IsRecs w a len cap [.int .u32, .bool]) : ∃ l : List C2, l.length = len ∧ CellsAt w a l ∧ (∀ x ∈ l, x.v ≤ 4294967295) ∧ (a = none → cap = 0) ∧ len ≤ cap ∧ cap ≤ maxLen := by
  rcases h with ⟨rfl, rfl, rfl⟩ | ⟨y, rfl, hlc, hcm, hcell⟩
  · exact ⟨[], rfl, fun i x hx => by simp at hx, by simp, fun _ => rfl, Nat.le_refl _, Nat.zero_le _⟩
  · obtain ⟨l, hl, hp⟩ := list_of (fun i (x : C2) => (w.cell? (y.add (i * 2)) = some (.int .u32 x.v) ∧ w.cell? ⟨(y.add (i * 2)).block, (y.add (i * 2)).off + 1, none⟩ = some (.bool x.kept)) ∧ x.v ≤ 4294967295) len (by
      intro i hi
      obtain ⟨_, c0, s, rfl, hs⟩ := hcell i hi 0 _ rfl
      obtain ⟨_, c1, b, rfl⟩ := hcell i hi 1 _ rfl
      have hb := bounds_u32 hs
      obtain ⟨v, rfl⟩ := Int.eq_ofNat_of_zero_le hb.1
      exact ⟨⟨v, b⟩, ⟨c0, c1⟩, by show v ≤ _; omega⟩)
    refine ⟨l, hl, fun i x hx => ⟨y, rfl, (hp i x hx).1⟩, fun x hx => ?_, fun h => (by cases h), hlc, hcm⟩
    obtain ⟨i, hi, rfl⟩ := List.mem_iff_getElem.1 hx
    exact (hp i _ (List.getElem?_eq_getElem hi)).2
def flatC (l : List C2) : List Value := l.flatMap celL
theorem flatC_len (l : List C2) : (flatC l).length = l.length * 2 := by
  induction l with
  | nil => rfl
  | cons x l ih => simp [flatC, celL] at ih ⊢; omega
theorem flatC_get (L : List C2) : ∀ (i : Nat) (q : C2) (j : Nat), L[i]? = some q → j < 2 → (flatC L)[i * 2 + j]? = (celL q)[j]? := by
  induction L with
  | nil => intro i x j h; simp at h
  | cons y l ih =>
    intro i x j h hj
    have e : flatC (y :: l) = celL y ++ flatC l := rfl
    have ely : (celL y).length = 2 := rfl
    cases i with
    | zero =>
      obtain rfl : y = x := by simpa using h
      rw [e, Nat.zero_mul, Nat.zero_add, List.getElem?_append_left (by omega)]
    | succ i =>
      have hx : l[i]? = some x := by simpa using h
      rw [e, List.getElem?_append_right (by omega), ← ih i x j hx hj, ely]
      congr 1
      omega
theorem add_more (y : Addr) (n m : Nat) (h : 0 < m) : (⟨(y.add n).block, (y.add n).off + m, none⟩ : Addr) = y.add (n + m) := by
  obtain ⟨b, o, s⟩ := y
  cases n with
  | zero => cases m with
    | zero => omega
    | succ m => simp [Addr.add]
  | succ n => cases m with
    | zero => omega
    | succ m => simp [Addr.add]; omega
theorem cells_flat {w : World} {y : Addr} {l : List C2} (h : CellsAt w (some y) l) : ∀ j v, (flatC l)[j]? = some v → w.cell? (y.add j) = some v := by
  intro j v hj
  have hjl : j < l.length * 2 := by rw [← flatC_len]; exact (List.getElem?_eq_some_iff.1 hj).1
  obtain ⟨x, hx⟩ : ∃ x, l[j / 2]? = some x := ⟨_, List.getElem?_eq_getElem (by omega)⟩
  obtain ⟨y', hy, c1, c2⟩ := h (j / 2) x hx
  obtain rfl := Option.some.inj hy
  have hg := flatC_get l (j / 2) x (j % 2) hx (by omega)
  rw [show j / 2 * 2 + j % 2 = j by omega, hj] at hg
  rcases (show j % 2 = 0 ∨ j % 2 = 1 by omega) with h0 | h0
  · rw [h0] at hg
    rw [show j = j / 2 * 2 by omega, c1]
    exact hg.symm
  · rw [h0] at hg
    rw [add_more _ _ _ (by omega)] at c2
    rw [show j = j / 2 * 2 + 1 by omega, c2]
    exact hg.symm
theorem flatC_one (l : List C2) : ∀ v ∈ flatC l, v.oneCell' = true := by
  intro v hv
  obtain ⟨x, _, hx⟩ := List.mem_flatMap.1 hv
  simp [celL] at hx
  rcases hx with rfl | rfl <;> rfl
/-- Numbers, cell for cell. -/
def vs (l : List Nat) : List Value := l.map fun (v : Nat) => .int .u32 (v : Int)
theorem vs_len (l : List Nat) : (vs l).length = l.length := by simp [vs]
theorem vs_get {l : List Nat} {j v : Nat} (h : l[j]? = some v) : (vs l)[j]? = some (.int .u32 (v : Int)) := by simp [vs, h]
theorem vs_set (l : List Nat) (j v : Nat) : vs (l.set j v) = (vs l).set j (.int .u32 (v : Int)) := by simp [vs, List.map_set]
theorem infoCell : (Try.prog.info? 140).map (fun i => (i.zero, i.size, i.bytes)) = some (some (.agg #[.int .u32 0, .bool false]), 2, 8) := by kernel_rfl
theorem infoU : (Try.prog.info? 40).map (fun i => (i.zero, i.size, i.bytes)) = some (some (.int .u32 0), 1, 4) := by kernel_rfl
def CCPost (l : List C2) (w : World) (e : Ending) (w' : World) : Prop := ∃ V, e = .returned V ∧ w'.ownsRow w.heap.size 140 2 V l.length (flatC l) ∧ Below w.heap.size w w'
set_option maxRecDepth 4000 in
set_option maxHeartbeats 800000 in
theorem ccells_any (A : Option Addr) (cap : Nat) (l : List C2) (w : World) (hx : CellsAt w A l) (hnil : A = none → cap = 0) (hlc : l.length ≤ cap) (hl : l.length ≤ 1099511627776) :
    Calls Try.prog 87 #[.slice A l.length cap] w (CCPost l w) := by
  obtain ⟨i0, hi, hz0, hz1, hz2⟩ := info_parts infoCell
  cases A with
  | none =>
    obtain rfl := hnil rfl
    obtain rfl : l = [] := List.eq_nil_of_length_eq_zero (by omega)
    have he : ∀ W, (binOp .eql 37 (.slice none 0 0) (.slice none 0 0)).run Try.prog W = .ok (.bool true) W := fun W => Lib.run_eql_slice_nil W _ _ none 0 0 0 0 Try.underlying37
    clear hx hnil hl hi
    go_enter Try.func87, Try.ntmps87
    go_wp2
    go_ret
    exact ⟨_, rfl, World.ownsRow_nil _ _ _ _, Below.refl _ _⟩
  | some a =>
    have hb0 : Below w.heap.size w (w.alloc (.cells #[] 140)) := (Below.refl _ _).alloc (Nat.le_refl _) _
    have HX := Lib.hid (cells_flat (hx.kept hb0))
    have HB := Lib.hid hb0
    have HO : Hid ((w.alloc (.cells #[] 140)).ownsRow w.heap.size 140 2 (.slice (some ⟨w.heap.size, 0, none⟩) 0 0) 0 []) := World.ownsRow_lit w #[] 0 (Nat.le_refl _) (Nat.zero_le _) rfl
    have HFL := Lib.hid (flatC_len l)
    have HON := Lib.hid (flatC_one l)
    obtain ⟨LL, hLL⟩ : ∃ LL, l.length = LL := ⟨_, rfl⟩
    have HLL := Lib.hid hLL
    rw [hLL] at hl hlc HFL
    rw [hLL]
    clear hx hnil hb0 hLL
    obtain ⟨ab, ao, asp⟩ := a
    have he : ∀ W, (binOp .eql 37 (.slice (some ⟨ab, ao, asp⟩) LL cap) (.slice none 0 0)).run Try.prog W = .ok (.bool false) W := fun W => Lib.run_eql_slice_nil W _ _ (some ⟨ab, ao, asp⟩) LL cap 0 0 Try.underlying37
    go_enter Try.func87, Try.ntmps87
    go_wp2_with (at_builtin; refine wpList_append_own _ rfl _ _ 37 rfl w.heap.size 140 i0 (.agg #[.int .u32 0, .bool false]) 2 8 Try.underlying37 hi hz0 hz1 hz2 rfl (by decide) _ 0 [] rfl HO.out ⟨ab, ao, asp⟩ LL cap (flatC l) rfl ?c1 ?c2 ?c3 ?c4 ?c5 ?c6 ?_)
    case c1 => exact HFL.out
    case c2 => exact HX.out
    case c3 => exact HON.out
    case c4 => unfold maxLen; omega
    case c5 => omega
    case c6 => simp
    intro v' w2 ho2 hg2 _
    have hb2 := HB.out.grown hg2 (by simp) (fun j hj => by first | (simp [Value.ownBlock] at hj; omega) | exact (ho2.lt j hj).1)
    clear hg2
    go_wp2
    go_ret
    exact ⟨v', rfl, by rw [HLL.out]; simpa using ho2, hb2⟩
/-- Numbers in a row that nobody else writes: the first n cells. -/
def NumsAt (w : World) (A : Option Addr) (l : List Nat) : Prop := ∀ (i v : Nat), l[i]? = some v → ∃ y, A = some y ∧ w.cell? (y.add i) = some (.int .u32 (v : Int))
theorem NumsAt.kept {w w' : World} {A : Option Addr} {l : List Nat} (h : NumsAt w A l) (b : Below w.heap.size w w') : NumsAt w' A l := by
  intro i x hx
  obtain ⟨y, e, h1⟩ := h i x hx
  exact ⟨y, e, (b.cell (Go.block_lt_of_cell h1)).trans h1⟩
theorem NumsAt.drewN {w : World} {A : Option Addr} {l : List Nat} (h : NumsAt w A l) (n : Nat) : NumsAt (w.drewN n) A l := h
theorem add_at (g n : Nat) : (Addr.mk g 0 none).add n = ⟨g, n, none⟩ := by cases n <;> simp [Addr.add]
/-- A row of the call's own, as numbers. -/
theorem own_nums {w : World} {B n c : Nat} {A : Option Addr} {l : List Nat} (h : w.ownsRow B 40 1 (.slice A n c) n (vs l)) (hl : l.length = n) : NumsAt w A l ∧ (A = none → c = 0) ∧ n ≤ c ∧ c ≤ maxLen := by
  rcases h.2 with ⟨h0, h1⟩ | ⟨g, c', cur, h0, hg1, hg2, hg3, hg4, hg5⟩
  · injection h0 with h2 h3 h4
    subst h2 h1 h4
    exact ⟨fun i x hx => by have := (List.getElem?_eq_some_iff.1 hx).1; omega, fun _ => rfl, Nat.le_refl _, Nat.zero_le _⟩
  · injection h0 with h2 h3 h4
    subst h2 h4
    refine ⟨fun i x hx => ⟨_, rfl, ?_⟩, (fun h => by cases h), hg3, hg4⟩
    have hi := (List.getElem?_eq_some_iff.1 hx).1
    rw [add_at, h.cellAt i (by omega), vs_get hx]
theorem own_cells {w : World} {B n c : Nat} {A : Option Addr} {l : List C2} (h : w.ownsRow B 140 2 (.slice A n c) n (flatC l)) (hl : l.length = n) : CellsAt w A l ∧ (A = none → c = 0) ∧ n ≤ c ∧ c ≤ maxLen := by
  rcases h.2 with ⟨h0, h1⟩ | ⟨g, c', cur, h0, hg1, hg2, hg3, hg4, hg5⟩
  · injection h0 with h2 h3 h4
    subst h2 h1 h4
    exact ⟨fun i x hx => by have := (List.getElem?_eq_some_iff.1 hx).1; omega, fun _ => rfl, Nat.le_refl _, Nat.zero_le _⟩
  · injection h0 with h2 h3 h4
    subst h2 h4
    refine ⟨fun i x hx => ⟨_, rfl, ?_⟩, (fun h => by cases h), hg3, hg4⟩
    have hi := (List.getElem?_eq_some_iff.1 hx).1
    rw [add_at]
    refine ⟨(h.cellAt (i * 2) (by omega)).trans (flatC_get l i x 0 hx (by omega)), (h.cellAt (i * 2 + 1) (by omega)).trans (flatC_get l i x 1 hx (by omega))⟩
def UCPost (l : List Nat) (w : World) (e : Ending) (w' : World) : Prop := ∃ V, e = .returned V ∧ w'.ownsRow w.heap.size 40 1 V l.length (vs l) ∧ Below w.heap.size w w'
set_option maxRecDepth 4000 in
set_option maxHeartbeats 800000 in
theorem cnums_any (A : Option Addr) (cap : Nat) (l : List Nat) (w : World) (hx : NumsAt w A l) (hnil : A = none → cap = 0) (hlc : l.length ≤ cap) (hl : l.length ≤ 1099511627776) :
    Calls Try.prog 54 #[.slice A l.length cap] w (UCPost l w) := by
  obtain ⟨i0, hi, hz0, hz1, hz2⟩ := info_parts infoU
  cases A with
  | none =>
    obtain rfl := hnil rfl
    obtain rfl : l = [] := List.eq_nil_of_length_eq_zero (by omega)
    have he : ∀ W, (binOp .eql 47 (.slice none 0 0) (.slice none 0 0)).run Try.prog W = .ok (.bool true) W := fun W => Lib.run_eql_slice_nil W _ _ none 0 0 0 0 Try.underlying47
    clear hx hnil hl hi
    go_enter Try.func54, Try.ntmps54
    go_wp2
    go_ret
    exact ⟨_, rfl, World.ownsRow_nil _ _ _ _, Below.refl _ _⟩
  | some a =>
    have hb0 : Below w.heap.size w (w.alloc (.cells #[] 40)) := (Below.refl _ _).alloc (Nat.le_refl _) _
    have HX : Hid (∀ j v, (vs l)[j]? = some v → (w.alloc (.cells #[] 40)).cell? (a.add j) = some v) := fun j v hj => by
      unfold vs at hj
      rw [List.getElem?_map, Option.map_eq_some_iff] at hj
      obtain ⟨x, hxj, rfl⟩ := hj
      obtain ⟨y, hy, hc⟩ := (hx.kept hb0) j x hxj
      obtain rfl := Option.some.inj hy
      exact hc
    have HB := Lib.hid hb0
    have HO : Hid ((w.alloc (.cells #[] 40)).ownsRow w.heap.size 40 1 (.slice (some ⟨w.heap.size, 0, none⟩) 0 0) 0 []) := World.ownsRow_lit w #[] 0 (Nat.le_refl _) (Nat.zero_le _) rfl
    have HFL := Lib.hid (vs_len l)
    have HON : Hid (∀ v ∈ vs l, v.oneCell' = true) := fun v hv => by
      unfold vs at hv
      obtain ⟨x, _, rfl⟩ := List.mem_map.1 hv
      rfl
    obtain ⟨LL, hLL⟩ : ∃ LL, l.length = LL := ⟨_, rfl⟩
    have HLL := Lib.hid hLL
    rw [hLL] at hl hlc HFL
    rw [hLL]
    clear hx hnil hb0 hLL
    obtain ⟨ab, ao, asp⟩ := a
    have he : ∀ W, (binOp .eql 47 (.slice (some ⟨ab, ao, asp⟩) LL cap) (.slice none 0 0)).run Try.prog W = .ok (.bool false) W := fun W => Lib.run_eql_slice_nil W _ _ (some ⟨ab, ao, asp⟩) LL cap 0 0 Try.underlying47
    go_enter Try.func54, Try.ntmps54
    go_wp2_with (at_builtin; refine wpList_append_own _ rfl _ _ 47 rfl w.heap.size 40 i0 (.int .u32 0) 1 4 Try.underlying47 hi hz0 hz1 hz2 rfl (by decide) _ 0 [] rfl HO.out ⟨ab, ao, asp⟩ LL cap (vs l) rfl ?c1 ?c2 ?c3 ?c4 ?c5 ?c6 ?_)
    case c1 => have := HFL.out; omega
    case c2 => exact HX.out
    case c3 => exact HON.out
    case c4 => unfold maxLen; omega
    case c5 => omega
    case c6 => simp
    intro v' w2 ho2 hg2 _
    have hb2 := HB.out.grown hg2 (by simp) (fun j hj => by first | (simp [Value.ownBlock] at hj; omega) | exact (ho2.lt j hj).1)
    clear hg2
    go_wp2
    go_ret
    exact ⟨v', rfl, by rw [HLL.out]; simpa using ho2, hb2⟩
/-- Block g is a partition's cells: fs as they are at first, ns as they are, so many writes; all of its blocks are B and above. -/
structure IsC (w : World) (B g : Nat) (FA : Option Addr) (fc : Nat) (fs : List C2) (A : Option Addr) (c : Nat) (ns : List Nat) (n : Nat) (wr : Int) : Prop where
  box : w.heap[g]? = some (.cells #[.slice FA n fc, .slice A n c, .int .i64 wr] 131 (0, 0))
  fst : w.ownsRow B 140 2 (.slice FA n fc) n (flatC fs)
  own : w.ownsRow B 40 1 (.slice A n c) n (vs ns)
  flen : fs.length = n
  nlen : ns.length = n
  ge : B ≤ g
  d1 : ∀ a, A = some a → a.block ≠ g
  d2 : ∀ a, FA = some a → a.block ≠ g
  d3 : ∀ a b, FA = some a → A = some b → a.block ≠ b.block
variable {w w' : World} {B g : Nat} {FA : Option Addr} {fc : Nat} {fs : List C2} {A : Option Addr} {c : Nat} {ns : List Nat} {n : Nat} {wr : Int}

theorem IsC.keep (h : IsC w B g FA fc fs A c ns n wr) (b : Below w.heap.size w w') : IsC w' B g FA fc fs A c ns n wr :=
  ⟨(b.block g (lt_of_block h.box)).trans h.box, own_keep h.fst b, own_keep h.own b, h.flen, h.nlen, h.ge, h.d1, h.d2, h.d3⟩
theorem IsC.drewN (h : IsC w B g FA fc fs A c ns n wr) (m : Nat) : IsC (w.drewN m) B g FA fc fs A c ns n wr := h.keep ⟨rfl, rfl, rfl, Nat.le_refl _, fun _ _ => rfl⟩
theorem IsC.cells (h : IsC w B g FA fc fs A c ns n wr) : w.cell? ⟨g, 0, none⟩ = some (.slice FA n fc) ∧ w.cell? ⟨g, 1, none⟩ = some (.slice A n c) ∧ w.cell? ⟨g, 2, none⟩ = some (.int .i64 wr) := by
  refine ⟨?_, ?_, ?_⟩
  all_goals (rw [cell_of_row w _ _ _ _ _ h.box]; rfl)
theorem IsC.free (h : IsC w B g FA fc fs A c ns n wr) (o : Nat) : w.frozen? ⟨g, o, none⟩ = false := by simp [World.frozen?, h.box]
theorem IsC.cellsAt (h : IsC w B g FA fc fs A c ns n wr) : CellsAt w FA fs := (own_cells h.fst h.flen).1
theorem IsC.numsAt (h : IsC w B g FA fc fs A c ns n wr) : NumsAt w A ns := (own_nums h.own h.nlen).1
/-- How many writes: a store. -/
theorem IsC.wrote (h : IsC w B g FA fc fs A c ns n wr) (x : Int) : IsC (w.setCell ⟨g, 2, none⟩ (.int .i64 x)) B g FA fc fs A c ns n x ∧ Two g A w (w.setCell ⟨g, 2, none⟩ (.int .i64 x)) := by
  refine ⟨⟨?_, ?_, ?_, h.flen, h.nlen, h.ge, h.d1, h.d2, h.d3⟩, two_cell w _ _ (.inl rfl)⟩
  · rw [heap_setCell_same w _ _ _ _ _ h.box]; rfl
  · exact h.fst.kept (row := some g) ⟨rfl, rfl, rfl, by simp, fun k _ hk => heap_setCell_other w _ k _ (fun e => hk (by simp [e]))⟩ (by
      cases hF : FA with
      | none => exact .inl rfl
      | some a => exact .inr (fun e => h.d2 a hF (Option.some.inj e)))
  · exact h.own.kept (row := some g) ⟨rfl, rfl, rfl, by simp, fun k _ hk => heap_setCell_other w _ k _ (fun e => hk (by simp [e]))⟩ (by
      cases hF : A with
      | none => exact .inl rfl
      | some a => exact .inr (fun e => h.d1 a hF (Option.some.inj e)))
/-- A cell's number: a store. -/
theorem IsC.stored (h : IsC w B g FA fc fs A c ns n wr) {r : Nat} (hA : A = some ⟨r, 0, none⟩) (j v : Nat) : IsC (w.setCell ⟨r, j, none⟩ (.int .u32 (v : Int))) B g FA fc fs A c (ns.set j v) n wr ∧ Two g A w (w.setCell ⟨r, j, none⟩ (.int .u32 (v : Int))) := by
  subst hA
  have hs := h.own.stored j (.int .u32 (v : Int))
  refine ⟨⟨?_, ?_, ?_, h.flen, by rw [List.length_set]; exact h.nlen, h.ge, h.d1, h.d2, h.d3⟩, two_cell w _ _ (.inr ⟨_, rfl, rfl⟩)⟩
  · exact (heap_setCell_other w ⟨r, j, none⟩ g _ (fun e => h.d1 ⟨r, 0, none⟩ rfl (by simpa using e.symm))).trans h.box
  · exact h.fst.kept hs.2 (by
      cases hF : FA with
      | none => exact .inl rfl
      | some a => exact .inr (fun e => h.d3 a _ hF rfl (Option.some.inj e)))
  · rw [vs_set]; exact hs.1
end Go.Proofs.Ytjdgpbjjhgfikaa.Cel
