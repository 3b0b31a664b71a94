
/- What is wrong with a partition: the program's word and the document's. No condition. Rows of cells, and whether two are one, as the document asks it. No condition. Rows of partitions, and whether two are one, as the document asks it. No condition. -/

import Derived.Test.YtlbpmbdogkfecaaDoorNamD

import Derived.Test.YtlbpmbdogkfecaaDoorHdrA

import Derived.Test.YtlbpmbdogkfecaaDoorActM

import Derived.Deep.QuietTactic

import Derived.BigQuiet

import Derived.BigRegion

namespace Go.Proofs.YtlbpmbdogkfecaaDoor.Prt

open Go.RowKit Go.PlainAid Go.Proofs.YtlbpmbdogkfecaaDoor.Oct Go.Proofs.YtlbpmbdogkfecaaDoor.Flt Go.Proofs.YtlbpmbdogkfecaaDoor.Rdr Go.Proofs.YtlbpmbdogkfecaaDoor.Nam

set_option linter.unusedVariables false

/-- A partition; its cells lie elsewhere. -/
structure P4 where
  id : Int
  nm : ByteArray
  may : Bool
  A : Option Addr
  len : Nat
  cap : Nat
def ptC (p : P4) : Array Value := #[.int .i64 p.id, .string p.nm, .bool p.may, .slice p.A p.len p.cap]
def rgtP (p : P4) : Nat := if (decide (0 ≤ p.id) && decide (p.id ≤ 255)) = false then 18 else if rightB p.nm = false then 7 else if decide (16 < (p.len : Int)) = true then 8 else 0
end Go.Proofs.YtlbpmbdogkfecaaDoor.Prt

namespace Go.Proofs.YtlbpmbdogkfecaaDoor.Prt

open Go.RowKit Go.PlainAid Go.Proofs.YtlbpmbdogkfecaaDoor.Oct Go.Proofs.YtlbpmbdogkfecaaDoor.Flt Go.Proofs.YtlbpmbdogkfecaaDoor.Rdr Go.Proofs.YtlbpmbdogkfecaaDoor.Nam

set_option linter.unusedVariables false

set_option linter.unusedSimpArgs false

/-- A cell: its value, whether it is kept. -/
structure C2 where
  v : Nat
  kept : Bool
def celL (x : C2) : List Value := [.int .u32 x.v, .bool x.kept]
def eqC (x y : C2) : Bool := x.v == y.v && x.kept == y.kept
/-- Cells lie at an address. -/
def CellsAt (w : World) (A : Option Addr) (l : List C2) : Prop :=
  ∀ i x, l[i]? = some x → ∃ y, A = some y ∧ w.cell? (y.add (i * 2)) = some (.int .u32 x.v) ∧ w.cell? ⟨(y.add (i * 2)).block, (y.add (i * 2)).off + 1, none⟩ = some (.bool x.kept)
theorem CellsAt.kept {w w' : World} {A : Option Addr} {l : List C2} (h : CellsAt w A l) (b : Below w.heap.size w w') : CellsAt w' A l := by
  intro i x hx
  obtain ⟨y, e, h1, h2⟩ := h i x hx
  exact ⟨y, e, (b.cell (Go.block_lt_of_cell h1)).trans h1, (b.cell (Go.block_lt_of_cell h2)).trans h2⟩
theorem CellsAt.drewN {w : World} {A : Option Addr} {l : List C2} (h : CellsAt w A l) (n : Nat) : CellsAt (w.drewN n) A l := h
def allEq {α : Type} (eq : α → α → Bool) : List α → List α → Bool
  | [], [] => true
  | x :: l, y :: m => eq x y && allEq eq l m
  | _, _ => false
theorem allEq_len {α : Type} (eq : α → α → Bool) : ∀ l m : List α, l.length ≠ m.length → allEq eq l m = false
  | [], [], h => absurd rfl h
  | [], _ :: _, _ => rfl
  | _ :: _, [], _ => rfl
  | x :: l, y :: m, h => by rw [allEq, allEq_len eq l m (by simpa using h), Bool.and_false]
theorem allEq_no {α : Type} (eq : α → α → Bool) : ∀ (l m : List α) (i : Nat) (x y : α), l[i]? = some x → m[i]? = some y → eq x y = false → allEq eq l m = false
  | [], _, i, x, y, h, _, _ => by simp at h
  | _ :: _, [], i, x, y, _, h, _ => by simp at h
  | a :: l, b :: m, 0, x, y, h1, h2, h3 => by
    obtain rfl : a = x := by simpa using h1
    obtain rfl : b = y := by simpa using h2
    rw [allEq, h3, Bool.false_and]
  | a :: l, b :: m, i + 1, x, y, h1, h2, h3 => by rw [allEq, allEq_no eq l m i x y (by simpa using h1) (by simpa using h2) h3, Bool.and_false]
theorem allEq_yes {α : Type} (eq : α → α → Bool) : ∀ (l m : List α), l.length = m.length → (∀ (i : Nat) (x y : α), l[i]? = some x → m[i]? = some y → eq x y = true) → allEq eq l m = true
  | [], [], _, _ => rfl
  | [], _ :: _, h, _ => by simp at h
  | _ :: _, [], h, _ => by simp at h
  | a :: l, b :: m, h, he => by
    rw [allEq, he 0 a b rfl rfl, allEq_yes eq l m (by simpa using h) (fun i x y h1 h2 => he (i + 1) x y (by simpa using h1) (by simpa using h2))]; rfl
theorem eqC_int (x y : C2) : (((x.v : Int) == (y.v : Int)) && (x.kept == y.kept)) = eqC x y := by
  unfold eqC
  rw [Bool.eq_iff_iff]; simp; omega
end Go.Proofs.YtlbpmbdogkfecaaDoor.Prt

namespace Go.Proofs.YtlbpmbdogkfecaaDoor.Prt

open Go.RowKit Go.PlainAid Go.Proofs.YtlbpmbdogkfecaaDoor.Oct Go.Proofs.YtlbpmbdogkfecaaDoor.Flt Go.Proofs.YtlbpmbdogkfecaaDoor.Rdr Go.Proofs.YtlbpmbdogkfecaaDoor.Nam

set_option linter.unusedVariables false

set_option linter.unusedSimpArgs false

/-- A partition, with its cells. -/
structure PT where
  id : Int
  nm : ByteArray
  may : Bool
  cs : List C2
def eqP (x y : PT) : Bool := x.id == y.id && (x.nm.toList == y.nm.toList) && x.may == y.may && allEq eqC x.cs y.cs
/-- Partitions lie at an address. -/
def PartsAt (w : World) (A : Option Addr) (l : List PT) : Prop :=
  ∀ i x, l[i]? = some x → ∃ y B c, A = some y ∧ w.cell? (y.add (i * 4)) = some (.int .i64 x.id) ∧ w.cell? ⟨(y.add (i * 4)).block, (y.add (i * 4)).off + 1, none⟩ = some (.string x.nm) ∧ w.cell? ⟨(y.add (i * 4)).block, (y.add (i * 4)).off + 2, none⟩ = some (.bool x.may) ∧
    w.cell? ⟨(y.add (i * 4)).block, (y.add (i * 4)).off + 3, none⟩ = some (.slice B x.cs.length c) ∧ CellsAt w B x.cs ∧ (B = none → c = 0) ∧ x.cs.length ≤ c ∧ c ≤ maxLen
theorem PartsAt.kept {w w' : World} {A : Option Addr} {l : List PT} (h : PartsAt w A l) (b : Below w.heap.size w w') : PartsAt w' A l := by
  intro i x hx
  obtain ⟨y, B, c, e, h1, h2, h3, h4, h5, h6⟩ := h i x hx
  exact ⟨y, B, c, e, (b.cell (Go.block_lt_of_cell h1)).trans h1, (b.cell (Go.block_lt_of_cell h2)).trans h2, (b.cell (Go.block_lt_of_cell h3)).trans h3, (b.cell (Go.block_lt_of_cell h4)).trans h4, h5.kept b, h6⟩
theorem eqP_id {x y : PT} (h : (x.id == y.id) = false) : eqP x y = false := by unfold eqP; rw [h]; rfl
theorem eqP_nm {x y : PT} (h : (x.nm.toList == y.nm.toList) = false) : eqP x y = false := by unfold eqP; rw [h]; simp
theorem eqP_may {x y : PT} (h : (x.may == y.may) = false) : eqP x y = false := by unfold eqP; rw [h]; simp
theorem eqP_cs {x y : PT} (h : allEq eqC x.cs y.cs = false) : eqP x y = false := by unfold eqP; rw [h]; simp
theorem eqP_all {x y : PT} (h1 : (x.id == y.id) = true) (h2 : (x.nm.toList == y.nm.toList) = true) (h3 : (x.may == y.may) = true) (h4 : allEq eqC x.cs y.cs = true) : eqP x y = true := by unfold eqP; rw [h1, h2, h3, h4]; rfl
end Go.Proofs.YtlbpmbdogkfecaaDoor.Prt
