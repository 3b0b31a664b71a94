/- What package name's Right tells of a text, and the document's: both by one reckoning. Condition: the text takes no more than what the model lets a text take. What the document's Right tells of a text: the same reckoning as the program's; and the chapter's examples of package name. Condition: the text takes no more than what the model lets a text take. What package name's Get reads, and the document's: the same. Condition: the table of names holds what the program lays there. What the document's Get of a name reads: the same as the program's. No condition. What package header tells of counts and of headers, and what the document tells of them. Condition: the variables hold what the program lays there. What is wrong with a partition: the program's word and the document's. No condition. Rows of cells, and whether two are one, as the document asks it. No condition. Rows of partitions, and whether two are one, as the document asks it. No condition. What the document tells of counts and headers: Fine, Right; the law's plain. No condition. What the document's Right tells of a header: the same as the program's. No condition. -/
import Derived.Test.YtnngldkpkhabeaaMg04
import Derived.Lib.Hide
import Derived.Test.YtnngldkpkhabeaaMg06
import Derived.Test.YtnngldkpkhabeaaMg01
import Derived.Lib.LaidTab
import Derived.Deep.QuietTactic
import Derived.BigQuiet
import Derived.BigRegion
namespace Go.Proofs.Ytnngldkpkhabeaa.Nam

open Go.RowKit Go.PlainAid Go.Proofs.Ytnngldkpkhabeaa.Oct

set_option linter.unusedVariables false

def letB (c : Int) : Bool := decide (65 ≤ c) && decide (c ≤ 90)
def digB (c : Int) : Bool := decide (48 ≤ c) && decide (c ≤ 57)
/-- May the byte stand in a name, as the first one or behind it? -/
def stdB (c : Int) (first : Bool) : Bool := letB c || (!first && (digB c || (c == 95)))
/-- Do all bytes of s below k stand in a name? -/
def allB (s : ByteArray) (k : Nat) : Bool := (List.range k).all fun i => stdB (bt s i) (i == 0)
def rightB (s : ByteArray) : Bool := decide (1 ≤ s.size) && decide (s.size ≤ 16) && allB s s.size
theorem all_succ (s : ByteArray) (k : Nat) : allB s (k + 1) = (allB s k && stdB (bt s k) (k == 0)) := by
  unfold allB; rw [List.range_succ, List.all_append]; simp
theorem all_false {s : ByteArray} {k m : Nat} (h : allB s k = false) (hm : k ≤ m) : allB s m = false := by
  induction m with
  | zero => obtain rfl : k = 0 := by omega
            exact h
  | succ m ih =>
    by_cases e : k = m + 1
    · rw [← e]; exact h
    · rw [all_succ, ih (by omega)]; rfl

theorem right_out {s : ByteArray} (h : ¬ (1 ≤ s.size ∧ s.size ≤ 16)) : rightB s = false := by
  unfold rightB; simp; omega
theorem right_in {s : ByteArray} (h : 1 ≤ s.size ∧ s.size ≤ 16) : rightB s = allB s s.size := by
  unfold rightB; simp [h.1, h.2]
theorem std_int (c : Int) (k : Nat) : stdB c ((k : Int) == 0) = stdB c (k == 0) := by
  have e : ((k : Int) == 0) = (k == 0) := by rw [Bool.eq_iff_iff]; simp
  rw [e]
end Go.Proofs.Ytnngldkpkhabeaa.Nam
namespace Go.Proofs.Ytnngldkpkhabeaa.Nam

open Go.RowKit Go.PlainAid Go.Proofs.Ytnngldkpkhabeaa.Oct

set_option linter.unusedVariables false

theorem rright_first {s : ByteArray} (h1 : 1 ≤ s.size) (h2 : s.size ≤ 16) (h : letB (bt s 0) = false) : rightB s = false := by
  rw [right_in ⟨h1, h2⟩]
  refine all_false (k := 1) ?_ h1
  rw [all_succ]
  unfold stdB; rw [h]; rfl
theorem empty_iff {s : ByteArray} (h : s.size = 0) : s.toList.isEmpty = true := by
  have : s.data = #[] := by
    apply Array.eq_empty_of_size_eq_zero; exact h
  rw [ByteArray.toList_eq, this]; rfl
theorem nonempty_iff {s : ByteArray} (h : 1 ≤ s.size) : s.toList.isEmpty = false := by
  rw [ByteArray.toList_eq]
  cases hh : s.data.toList.isEmpty with
  | false => rfl
  | true =>
    rw [List.isEmpty_iff] at hh
    have : s.size = 0 := by show s.data.size = 0; rw [← Array.length_toList, hh]; rfl
    omega
theorem aw_yes : rightB ⟨#[78, 65, 86, 95, 49]⟩ = true := by decide +kernel
theorem aw_no : rightB ⟨#[49, 78, 65, 86]⟩ = false := by decide +kernel
end Go.Proofs.Ytnngldkpkhabeaa.Nam
namespace Go.Proofs.Ytnngldkpkhabeaa.Nam

open Go.RowKit Go.PlainAid Go.Proofs.Ytnngldkpkhabeaa.Oct Go.Proofs.Ytnngldkpkhabeaa.Flt Go.Proofs.Ytnngldkpkhabeaa.Rdr

set_option linter.unusedVariables false

theorem txt_size (t : St) (n : Int) (h : Ok t) : (txtV t n).size ≤ maxLen := by
  unfold txtV
  split
  · have := h.2; rw [ByteArray.size_extract]; unfold maxLen; omega
  · show 0 ≤ _; omega
/-- The next name. -/
def nmS (t : St) : St :=
  if (numS t 1).k ≠ 0 then numS t 1 else if numV t 1 = 0 ∨ 16 < numV t 1 then failS (numS t 1) 7 t.p
  else if (txtS (numS t 1) (numV t 1)).k ≠ 0 then txtS (numS t 1) (numV t 1) else if rightB (txtV (numS t 1) (numV t 1)) then txtS (numS t 1) (numV t 1) else failS (txtS (numS t 1) (numV t 1)) 7 t.p
def nmV (t : St) : ByteArray :=
  if (numS t 1).k = 0 ∧ ¬ (numV t 1 = 0 ∨ 16 < numV t 1) ∧ (txtS (numS t 1) (numV t 1)).k = 0 ∧ rightB (txtV (numS t 1) (numV t 1)) = true then txtV (numS t 1) (numV t 1) else ⟨#[]⟩

end Go.Proofs.Ytnngldkpkhabeaa.Nam
namespace Go.Proofs.Ytnngldkpkhabeaa.Nam

open Go.RowKit Go.PlainAid Go.Proofs.Ytnngldkpkhabeaa.Oct Go.Proofs.Ytnngldkpkhabeaa.Flt Go.Proofs.Ytnngldkpkhabeaa.Rdr

set_option linter.unusedVariables false

theorem len_rd (t : St) : (rdC t).size = 6 := rfl
end Go.Proofs.Ytnngldkpkhabeaa.Nam
namespace Go.Proofs.Ytnngldkpkhabeaa.Hdr

open Go.RowKit Go.PlainAid Go.Proofs.Ytnngldkpkhabeaa.Oct Go.Proofs.Ytnngldkpkhabeaa.Flt Go.Proofs.Ytnngldkpkhabeaa.Rdr

set_option linter.unusedVariables false

def fewL : List Int := [1, 1, 0, 0]
def mostL : List Int := [32, 16, 240, 512]
theorem cell_of_heap {w w' : World} {g : Nat} (i : Nat) (h : w'.heap[g]? = w.heap[g]?) : w'.cell? ⟨g, i, none⟩ = w.cell? ⟨g, i, none⟩ := by simp [World.cell?, h]
/-- May there be n of what is counted at place i? -/
def fineB (i : Nat) (n : Int) : Bool := decide (fewL.getD i 0 ≤ n) && decide (n ≤ mostL.getD i 0)
/-- A header: its fields. -/
structure H7 where
  tot : Nat
  ep : Nat
  fi : Int
  a : Int
  b : Int
  c : Int
  d : Int
def hdC (h : H7) : Array Value := #[.int .u32 h.tot, .int .u64 h.ep, .int .i64 h.fi, .int .i64 h.a, .int .i64 h.b, .int .i64 h.c, .int .i64 h.d]
/-- What is wrong with a header, and where: its class (0: nothing), its place. -/
def bad (h : H7) : Nat × Int :=
  if h.fi < 0 ∨ 255 < h.fi then (18, 0) else if fineB 0 h.a = false then (8, 1) else if fineB 1 h.b = false then (8, 2) else if fineB 2 h.c = false then (8, 3) else if fineB 3 h.d = false then (8, 4) else (0, 0)
def sec1 (k : Nat) : Int := if k = 0 then 0 else 1
def I64 (n : Int) : Prop := -9223372036854775808 ≤ n ∧ n ≤ 9223372036854775807
/-- A header whose numbers fit their fields. -/
structure Fit (h : H7) : Prop where
  tot : h.tot ≤ 4294967295
  ep : h.ep ≤ 18446744073709551615
  fi : I64 h.fi
  a : I64 h.a
  b : I64 h.b
  c : I64 h.c
  d : I64 h.d
def cntL (h : H7) : List Int := [h.a, h.b, h.c, h.d]
end Go.Proofs.Ytnngldkpkhabeaa.Hdr
namespace Go.Proofs.Ytnngldkpkhabeaa.Prt

open Go.RowKit Go.PlainAid Go.Proofs.Ytnngldkpkhabeaa.Oct Go.Proofs.Ytnngldkpkhabeaa.Flt Go.Proofs.Ytnngldkpkhabeaa.Rdr Go.Proofs.Ytnngldkpkhabeaa.Nam

set_option linter.unusedVariables false

/-- A partition; its cells lie elsewhere. -/
structure P4 where
  id : Int
  nm : ByteArray
  may : Bool
  A : Option Addr
  len : Nat
  cap : Nat
def ptC (p : P4) : Array Value := #[.int .i64 p.id, .string p.nm, .bool p.may, .slice p.A p.len p.cap]
def rgtP (p : P4) : Nat := if (decide (0 ≤ p.id) && decide (p.id ≤ 255)) = false then 18 else if rightB p.nm = false then 7 else if decide (16 < (p.len : Int)) = true then 8 else 0
end Go.Proofs.Ytnngldkpkhabeaa.Prt

namespace Go.Proofs.Ytnngldkpkhabeaa.Prt

open Go.RowKit Go.PlainAid Go.Proofs.Ytnngldkpkhabeaa.Oct Go.Proofs.Ytnngldkpkhabeaa.Flt Go.Proofs.Ytnngldkpkhabeaa.Rdr Go.Proofs.Ytnngldkpkhabeaa.Nam

set_option linter.unusedVariables false

set_option linter.unusedSimpArgs false

/-- A cell: its value, whether it is kept. -/
structure C2 where
  v : Nat
  kept : Bool
def celL (x : C2) : List Value := [.int .u32 x.v, .bool x.kept]
def eqC (x y : C2) : Bool := x.v == y.v && x.kept == y.kept
/-- Cells lie at an address. -/
def CellsAt (w : World) (A : Option Addr) (l : List C2) : Prop :=
  ∀ i x, l[i]? = some x → ∃ y, A = some y ∧ w.cell? (y.add (i * 2)) = some (.int .u32 x.v) ∧ w.cell? ⟨(y.add (i * 2)).block, (y.add (i * 2)).off + 1, none⟩ = some (.bool x.kept)
theorem CellsAt.kept {w w' : World} {A : Option Addr} {l : List C2} (h : CellsAt w A l) (b : Below w.heap.size w w') : CellsAt w' A l := by
  intro i x hx
  obtain ⟨y, e, h1, h2⟩ := h i x hx
  exact ⟨y, e, (b.cell (Go.block_lt_of_cell h1)).trans h1, (b.cell (Go.block_lt_of_cell h2)).trans h2⟩
theorem CellsAt.drewN {w : World} {A : Option Addr} {l : List C2} (h : CellsAt w A l) (n : Nat) : CellsAt (w.drewN n) A l := h
def allEq {α : Type} (eq : α → α → Bool) : List α → List α → Bool
  | [], [] => true
  | x :: l, y :: m => eq x y && allEq eq l m
  | _, _ => false
theorem allEq_len {α : Type} (eq : α → α → Bool) : ∀ l m : List α, l.length ≠ m.length → allEq eq l m = false
  | [], [], h => absurd rfl h
  | [], _ :: _, _ => rfl
  | _ :: _, [], _ => rfl
  | x :: l, y :: m, h => by rw [allEq, allEq_len eq l m (by simpa using h), Bool.and_false]
theorem allEq_no {α : Type} (eq : α → α → Bool) : ∀ (l m : List α) (i : Nat) (x y : α), l[i]? = some x → m[i]? = some y → eq x y = false → allEq eq l m = false
  | [], _, i, x, y, h, _, _ => by simp at h
  | _ :: _, [], i, x, y, _, h, _ => by simp at h
  | a :: l, b :: m, 0, x, y, h1, h2, h3 => by
    obtain rfl : a = x := by simpa using h1
    obtain rfl : b = y := by simpa using h2
    rw [allEq, h3, Bool.false_and]
  | a :: l, b :: m, i + 1, x, y, h1, h2, h3 => by rw [allEq, allEq_no eq l m i x y (by simpa using h1) (by simpa using h2) h3, Bool.and_false]
theorem allEq_yes {α : Type} (eq : α → α → Bool) : ∀ (l m : List α), l.length = m.length → (∀ (i : Nat) (x y : α), l[i]? = some x → m[i]? = some y → eq x y = true) → allEq eq l m = true
  | [], [], _, _ => rfl
  | [], _ :: _, h, _ => by simp at h
  | _ :: _, [], h, _ => by simp at h
  | a :: l, b :: m, h, he => by
    rw [allEq, he 0 a b rfl rfl, allEq_yes eq l m (by simpa using h) (fun i x y h1 h2 => he (i + 1) x y (by simpa using h1) (by simpa using h2))]; rfl
theorem eqC_int (x y : C2) : (((x.v : Int) == (y.v : Int)) && (x.kept == y.kept)) = eqC x y := by
  unfold eqC
  rw [Bool.eq_iff_iff]; simp; omega
end Go.Proofs.Ytnngldkpkhabeaa.Prt

namespace Go.Proofs.Ytnngldkpkhabeaa.Prt

open Go.RowKit Go.PlainAid Go.Proofs.Ytnngldkpkhabeaa.Oct Go.Proofs.Ytnngldkpkhabeaa.Flt Go.Proofs.Ytnngldkpkhabeaa.Rdr Go.Proofs.Ytnngldkpkhabeaa.Nam

set_option linter.unusedVariables false

set_option linter.unusedSimpArgs false

/-- A partition, with its cells. -/
structure PT where
  id : Int
  nm : ByteArray
  may : Bool
  cs : List C2
def eqP (x y : PT) : Bool := x.id == y.id && (x.nm.toList == y.nm.toList) && x.may == y.may && allEq eqC x.cs y.cs
/-- Partitions lie at an address. -/
def PartsAt (w : World) (A : Option Addr) (l : List PT) : Prop :=
  ∀ i x, l[i]? = some x → ∃ y B c, A = some y ∧ w.cell? (y.add (i * 4)) = some (.int .i64 x.id) ∧ w.cell? ⟨(y.add (i * 4)).block, (y.add (i * 4)).off + 1, none⟩ = some (.string x.nm) ∧ w.cell? ⟨(y.add (i * 4)).block, (y.add (i * 4)).off + 2, none⟩ = some (.bool x.may) ∧
    w.cell? ⟨(y.add (i * 4)).block, (y.add (i * 4)).off + 3, none⟩ = some (.slice B x.cs.length c) ∧ CellsAt w B x.cs ∧ (B = none → c = 0) ∧ x.cs.length ≤ c ∧ c ≤ maxLen
theorem PartsAt.kept {w w' : World} {A : Option Addr} {l : List PT} (h : PartsAt w A l) (b : Below w.heap.size w w') : PartsAt w' A l := by
  intro i x hx
  obtain ⟨y, B, c, e, h1, h2, h3, h4, h5, h6⟩ := h i x hx
  exact ⟨y, B, c, e, (b.cell (Go.block_lt_of_cell h1)).trans h1, (b.cell (Go.block_lt_of_cell h2)).trans h2, (b.cell (Go.block_lt_of_cell h3)).trans h3, (b.cell (Go.block_lt_of_cell h4)).trans h4, h5.kept b, h6⟩
theorem eqP_id {x y : PT} (h : (x.id == y.id) = false) : eqP x y = false := by unfold eqP; rw [h]; rfl
theorem eqP_nm {x y : PT} (h : (x.nm.toList == y.nm.toList) = false) : eqP x y = false := by unfold eqP; rw [h]; simp
theorem eqP_may {x y : PT} (h : (x.may == y.may) = false) : eqP x y = false := by unfold eqP; rw [h]; simp
theorem eqP_cs {x y : PT} (h : allEq eqC x.cs y.cs = false) : eqP x y = false := by unfold eqP; rw [h]; simp
theorem eqP_all {x y : PT} (h1 : (x.id == y.id) = true) (h2 : (x.nm.toList == y.nm.toList) = true) (h3 : (x.may == y.may) = true) (h4 : allEq eqC x.cs y.cs = true) : eqP x y = true := by unfold eqP; rw [h1, h2, h3, h4]; rfl
end Go.Proofs.Ytnngldkpkhabeaa.Prt
namespace Go.Proofs.Ytnngldkpkhabeaa.Hdr

open Go.RowKit Go.PlainAid Go.Proofs.Ytnngldkpkhabeaa.Oct Go.Proofs.Ytnngldkpkhabeaa.Flt Go.Proofs.Ytnngldkpkhabeaa.Rdr

set_option linter.unusedVariables false

theorem second_new (w : World) (o p : Obj) : ((w.alloc o).alloc p).heap[w.heap.size + 1]? = some p := by have := heap_alloc_new (w.alloc o) p; simpa using this
def hd0 : Array Value := #[.int .u32 0, .int .u64 0, .int .i64 0, .int .i64 0, .int .i64 0, .int .i64 0, .int .i64 0]
theorem one_hd (h : H7) : (hdC h).all (·.oneCell') = true := by simp [hdC, Value.oneCell']
theorem below_set2 {w W : World} {g : Nat} {cs : Array Value} (h : Below w.heap.size w W) (hg : w.heap.size ≤ g) : Below w.heap.size w (W.setRow g cs) :=
  h.trans ⟨rfl, rfl, rfl, by simp, fun k hk => setRow_other _ _ _ _ (by omega)⟩
end Go.Proofs.Ytnngldkpkhabeaa.Hdr
namespace Go.Proofs.Ytnngldkpkhabeaa.Hdr

open Go.RowKit Go.PlainAid Go.Proofs.Ytnngldkpkhabeaa.Oct Go.Proofs.Ytnngldkpkhabeaa.Flt Go.Proofs.Ytnngldkpkhabeaa.Rdr

set_option linter.unusedVariables false

/-- The count at place i, from 0 on. -/
def cntAt (h : H7) : Nat → Int
  | 0 => h.a
  | 1 => h.b
  | 2 => h.c
  | _ => h.d
theorem bad_at {h : H7} (h0 : ¬ (h.fi < 0 ∨ 255 < h.fi)) {m : Nat} (hm : m < 4) (hall : ∀ j, j < m → fineB j (cntAt h j) = true) (hx : fineB m (cntAt h m) = false) : bad h = (8, ((m + 1 : Nat) : Int)) := by
  unfold bad
  rw [if_neg h0]
  rcases (show m = 0 ∨ m = 1 ∨ m = 2 ∨ m = 3 by omega) with rfl | rfl | rfl | rfl
  · have e : fineB 0 h.a = false := hx
    rw [if_pos e]; rfl
  · have e0 : fineB 0 h.a = true := hall 0 (by omega)
    have e : fineB 1 h.b = false := hx
    rw [e0, e]; rfl
  · have e0 : fineB 0 h.a = true := hall 0 (by omega)
    have e1 : fineB 1 h.b = true := hall 1 (by omega)
    have e : fineB 2 h.c = false := hx
    rw [e0, e1, e]; rfl
  · have e0 : fineB 0 h.a = true := hall 0 (by omega)
    have e1 : fineB 1 h.b = true := hall 1 (by omega)
    have e2 : fineB 2 h.c = true := hall 2 (by omega)
    have e : fineB 3 h.d = false := hx
    rw [e0, e1, e2, e]; rfl
theorem bad_none {h : H7} (h0 : ¬ (h.fi < 0 ∨ 255 < h.fi)) (hall : ∀ j, j < 4 → fineB j (cntAt h j) = true) : bad h = (0, 0) := by
  unfold bad
  rw [if_neg h0]
  have e0 : fineB 0 h.a = true := hall 0 (by omega)
  have e1 : fineB 1 h.b = true := hall 1 (by omega)
  have e2 : fineB 2 h.c = true := hall 2 (by omega)
  have e3 : fineB 3 h.d = true := hall 3 (by omega)
  rw [e0, e1, e2, e3]; rfl
theorem third_facts (w : World) (o1 o2 o3 : Obj) : (((w.alloc o1).alloc o2).alloc o3).heap[w.heap.size + 1]? = some o2 ∧ (((w.alloc o1).alloc o2).alloc o3).heap[w.heap.size + 2]? = some o3 ∧ Below w.heap.size w (((w.alloc o1).alloc o2).alloc o3) := by
  refine ⟨?_, ?_, (two_below w o1 o2).alloc (by simp; omega) o3⟩
  · rw [heap_alloc_old _ _ (by simp)]; exact second_new w o1 o2
  · have := heap_alloc_new ((w.alloc o1).alloc o2) o3; simpa using this
end Go.Proofs.Ytnngldkpkhabeaa.Hdr
