/- What is wrong with a partition: the program's word and the document's. No condition. Rows of cells, and whether two are one, as the document asks it. No condition. Rows of partitions, and whether two are one, as the document asks it. No condition. What the document tells of counts and headers: Fine, Right; the law's plain. No condition. What the document's Right tells of a header: the same as the program's. No condition. What is wrong first with partitions that are to be put, as the program tells it. Condition: the variables hold what the program lays there. What is wrong first with partitions that are to be put, as the document tells it. No condition. What package octet's Put returns: bytes in memory of its own, those that came in and the number's behind them, where it fits; nothing that was there has changed. Condition: at most 2 to the power 40 bytes come in. -/
import Derived.Test.YtmcmmbkodllpkaaGreatDoorMg07
import Derived.Deep.QuietTactic
import Derived.BigQuiet
import Derived.BigRegion
import Derived.IntWalk
import Derived.Test.YtmcmmbkodllpkaaGreatDoorMg02
import Derived.Laws.CopyOwn
namespace Go.Proofs.YtmcmmbkodllpkaaGreatDoor.Prt

open Go.RowKit Go.PlainAid Go.Proofs.YtmcmmbkodllpkaaGreatDoor.Oct Go.Proofs.YtmcmmbkodllpkaaGreatDoor.Flt Go.Proofs.YtmcmmbkodllpkaaGreatDoor.Rdr Go.Proofs.YtmcmmbkodllpkaaGreatDoor.Nam

set_option linter.unusedVariables false

/-- A partition; its cells lie elsewhere. -/
structure P4 where
  id : Int
  nm : ByteArray
  may : Bool
  A : Option Addr
  len : Nat
  cap : Nat
def ptC (p : P4) : Array Value := #[.int .i64 p.id, .string p.nm, .bool p.may, .slice p.A p.len p.cap]
def rgtP (p : P4) : Nat := if (decide (0 ≤ p.id) && decide (p.id ≤ 255)) = false then 18 else if rightB p.nm = false then 7 else if decide (16 < (p.len : Int)) = true then 8 else 0
set_option maxRecDepth 4000 in
set_option maxHeartbeats 800000 in
theorem pright_any (p : P4) (hid : Hdr.I64 p.id) (hn : p.nm.size ≤ maxLen) (w : World) :
    Calls Tryz.prog 56 #[.agg (ptC p)] w fun e w' => e = .returned (.int .i64 (rgtP p)) ∧ Below w.heap.size w w' := by
  have HB : Hid (∀ o, Below w.heap.size w (w.alloc o)) := fun o => (Below.refl _ _).alloc (Nat.le_refl _) o
  have HF := Lib.hid (fun w => Hdr.fits_first hid w)
  have HR := Lib.hid (fun w => right_any p.nm w hn)
  obtain ⟨id, nm, may, A, len, cap⟩ := p
  unfold rgtP ptC
  dsimp only at *
  clear hid hn
  cases h1 : (decide (0 ≤ id) && decide (id ≤ 255)) with
  | false =>
    rw [h1] at HF
    clear h1 HR
    go_enter Tryz.func56, Tryz.ntmps56
    go_wp2_with (go_at_call 73; refine (HF.out _).mono ?_; rintro e w' ⟨rfl, rfl⟩)
    go_ret
    exact ⟨rfl, HB.out _⟩
  | true =>
    rw [h1] at HF
    clear h1
    cases h2 : rightB nm with
    | false =>
      rw [h2] at HR
      clear h2
      go_enter Tryz.func56, Tryz.ntmps56
      go_wp2_with (first
        | (go_at_call 73; refine (HF.out _).mono ?_; rintro e w' ⟨rfl, rfl⟩)
        | (go_at_call 74; refine (HR.out _).mono ?_; rintro e w' ⟨rfl, rfl⟩))
      go_ret
      exact ⟨rfl, HB.out _⟩
    | true =>
      rw [h2] at HR
      clear h2
      cases h3 : decide (16 < (len : Int))
      all_goals
        go_enter Tryz.func56, Tryz.ntmps56
        go_wp2_with (first
          | (go_at_call 73; refine (HF.out _).mono ?_; rintro e w' ⟨rfl, rfl⟩)
          | (go_at_call 74; refine (HR.out _).mono ?_; rintro e w' ⟨rfl, rfl⟩))
        go_ret
        exact ⟨rfl, HB.out _⟩
set_option maxRecDepth 4000 in
set_option maxHeartbeats 800000 in
theorem pright08_any (p : P4) (hn : p.nm.size ≤ maxLen) (w : World) :
    Calls Tryz.prog 44 #[.agg (ptC p)] w fun e w' => e = .returned (.int .i64 (rgtP p)) ∧ Below w.heap.size w w' := by
  have HB : Hid (∀ o, Below w.heap.size w (w.alloc o)) := fun o => (Below.refl _ _).alloc (Nat.le_refl _) o
  have HR := Lib.hid (fun w => rright_any p.nm w hn)
  obtain ⟨id, nm, may, A, len, cap⟩ := p
  unfold rgtP ptC
  dsimp only at *
  clear hn
  by_cases hx : id < 0 ∨ 255 < id
  · have e1 : (decide (0 ≤ id) && decide (id ≤ 255)) = false := by simp; omega
    rw [if_pos e1]
    rcases (show id < 0 ∨ (¬ id < 0 ∧ 255 < id) by omega) with h | ⟨h, h'⟩
    · have t1 : decide (id < 0) = true := decide_eq_true h
      clear hx h e1 HR
      go_enter Tryz.func44, Tryz.ntmps44
      go_wp2
      go_ret
      exact ⟨rfl, HB.out _⟩
    · have t1 : decide (id < 0) = false := decide_eq_false h
      have t2 : decide (255 < id) = true := decide_eq_true h'
      clear hx h h' e1 HR
      go_enter Tryz.func44, Tryz.ntmps44
      go_wp2
      go_ret
      exact ⟨rfl, HB.out _⟩
  · have e1 : ¬ ((decide (0 ≤ id) && decide (id ≤ 255)) = false) := by simp; omega
    rw [if_neg e1]
    have t1 : decide (id < 0) = false := decide_eq_false (by omega)
    have t2 : decide (255 < id) = false := decide_eq_false (by omega)
    clear hx e1
    cases h2 : rightB nm with
    | false =>
      rw [h2] at HR
      clear h2
      go_enter Tryz.func44, Tryz.ntmps44
      go_wp2_with (go_at_call 64; refine (HR.out _).mono ?_; rintro e w' ⟨rfl, rfl⟩)
      go_ret
      exact ⟨rfl, HB.out _⟩
    | true =>
      rw [h2] at HR
      clear h2
      cases h3 : decide (16 < (len : Int))
      all_goals
        go_enter Tryz.func44, Tryz.ntmps44
        go_wp2_with (go_at_call 64; refine (HR.out _).mono ?_; rintro e w' ⟨rfl, rfl⟩)
        go_ret
        exact ⟨rfl, HB.out _⟩
end Go.Proofs.YtmcmmbkodllpkaaGreatDoor.Prt

namespace Go.Proofs.YtmcmmbkodllpkaaGreatDoor.Prt

open Go.RowKit Go.PlainAid Go.Proofs.YtmcmmbkodllpkaaGreatDoor.Oct Go.Proofs.YtmcmmbkodllpkaaGreatDoor.Flt Go.Proofs.YtmcmmbkodllpkaaGreatDoor.Rdr Go.Proofs.YtmcmmbkodllpkaaGreatDoor.Nam

set_option linter.unusedVariables false

set_option linter.unusedSimpArgs false

/-- A cell: its value, whether it is kept. -/
structure C2 where
  v : Nat
  kept : Bool
def celL (x : C2) : List Value := [.int .u32 x.v, .bool x.kept]
def eqC (x y : C2) : Bool := x.v == y.v && x.kept == y.kept
/-- Cells lie at an address. -/
def CellsAt (w : World) (A : Option Addr) (l : List C2) : Prop :=
  ∀ i x, l[i]? = some x → ∃ y, A = some y ∧ w.cell? (y.add (i * 2)) = some (.int .u32 x.v) ∧ w.cell? ⟨(y.add (i * 2)).block, (y.add (i * 2)).off + 1, none⟩ = some (.bool x.kept)
theorem CellsAt.kept {w w' : World} {A : Option Addr} {l : List C2} (h : CellsAt w A l) (b : Below w.heap.size w w') : CellsAt w' A l := by
  intro i x hx
  obtain ⟨y, e, h1, h2⟩ := h i x hx
  exact ⟨y, e, (b.cell (Go.block_lt_of_cell h1)).trans h1, (b.cell (Go.block_lt_of_cell h2)).trans h2⟩
theorem CellsAt.drewN {w : World} {A : Option Addr} {l : List C2} (h : CellsAt w A l) (n : Nat) : CellsAt (w.drewN n) A l := h
def allEq {α : Type} (eq : α → α → Bool) : List α → List α → Bool
  | [], [] => true
  | x :: l, y :: m => eq x y && allEq eq l m
  | _, _ => false
theorem allEq_len {α : Type} (eq : α → α → Bool) : ∀ l m : List α, l.length ≠ m.length → allEq eq l m = false
  | [], [], h => absurd rfl h
  | [], _ :: _, _ => rfl
  | _ :: _, [], _ => rfl
  | x :: l, y :: m, h => by rw [allEq, allEq_len eq l m (by simpa using h), Bool.and_false]
theorem allEq_no {α : Type} (eq : α → α → Bool) : ∀ (l m : List α) (i : Nat) (x y : α), l[i]? = some x → m[i]? = some y → eq x y = false → allEq eq l m = false
  | [], _, i, x, y, h, _, _ => by simp at h
  | _ :: _, [], i, x, y, _, h, _ => by simp at h
  | a :: l, b :: m, 0, x, y, h1, h2, h3 => by
    obtain rfl : a = x := by simpa using h1
    obtain rfl : b = y := by simpa using h2
    rw [allEq, h3, Bool.false_and]
  | a :: l, b :: m, i + 1, x, y, h1, h2, h3 => by rw [allEq, allEq_no eq l m i x y (by simpa using h1) (by simpa using h2) h3, Bool.and_false]
theorem allEq_yes {α : Type} (eq : α → α → Bool) : ∀ (l m : List α), l.length = m.length → (∀ (i : Nat) (x y : α), l[i]? = some x → m[i]? = some y → eq x y = true) → allEq eq l m = true
  | [], [], _, _ => rfl
  | [], _ :: _, h, _ => by simp at h
  | _ :: _, [], h, _ => by simp at h
  | a :: l, b :: m, h, he => by
    rw [allEq, he 0 a b rfl rfl, allEq_yes eq l m (by simpa using h) (fun i x y h1 h2 => he (i + 1) x y (by simpa using h1) (by simpa using h2))]; rfl
theorem eq_cell (a b : Nat) (c d : Bool) (w : World) : (Op.equalIn 10000 230 (.agg #[.int .u32 a, .bool c]) (.agg #[.int .u32 b, .bool d])).run Tryz.prog w = .ok (((a : Int) == (b : Int)) && (c == d)) w := by
  have hS : Tryz.prog.underlying 230 = some (.struct (Tryz.prog.fieldsOf 230)) := by kernel_rfl
  rw [show (10000 : Nat) = 9999 + 1 from rfl, run_equalIn_agg w 9999 230 _ _ hS (by kernel_rfl)]
  simp only [Program.fieldsOf, Tryz.underlying230]
  go_simp
  by_cases h : (a : Int) = b <;> cases c <;> cases d <;> simp [h]
theorem eqC_int (x y : C2) : (((x.v : Int) == (y.v : Int)) && (x.kept == y.kept)) = eqC x y := by
  unfold eqC
  rw [Bool.eq_iff_iff]; simp; omega
end Go.Proofs.YtmcmmbkodllpkaaGreatDoor.Prt

namespace Go.Proofs.YtmcmmbkodllpkaaGreatDoor.Prt

open Go.RowKit Go.PlainAid Go.Proofs.YtmcmmbkodllpkaaGreatDoor.Oct Go.Proofs.YtmcmmbkodllpkaaGreatDoor.Flt Go.Proofs.YtmcmmbkodllpkaaGreatDoor.Rdr Go.Proofs.YtmcmmbkodllpkaaGreatDoor.Nam

set_option linter.unusedVariables false

set_option linter.unusedSimpArgs false

/-- A partition, with its cells. -/
structure PT where
  id : Int
  nm : ByteArray
  may : Bool
  cs : List C2
def eqP (x y : PT) : Bool := x.id == y.id && (x.nm.toList == y.nm.toList) && x.may == y.may && allEq eqC x.cs y.cs
/-- Partitions lie at an address. -/
def PartsAt (w : World) (A : Option Addr) (l : List PT) : Prop :=
  ∀ i x, l[i]? = some x → ∃ y B c, A = some y ∧ w.cell? (y.add (i * 4)) = some (.int .i64 x.id) ∧ w.cell? ⟨(y.add (i * 4)).block, (y.add (i * 4)).off + 1, none⟩ = some (.string x.nm) ∧ w.cell? ⟨(y.add (i * 4)).block, (y.add (i * 4)).off + 2, none⟩ = some (.bool x.may) ∧
    w.cell? ⟨(y.add (i * 4)).block, (y.add (i * 4)).off + 3, none⟩ = some (.slice B x.cs.length c) ∧ CellsAt w B x.cs ∧ (B = none → c = 0) ∧ x.cs.length ≤ c ∧ c ≤ maxLen
theorem PartsAt.kept {w w' : World} {A : Option Addr} {l : List PT} (h : PartsAt w A l) (b : Below w.heap.size w w') : PartsAt w' A l := by
  intro i x hx
  obtain ⟨y, B, c, e, h1, h2, h3, h4, h5, h6⟩ := h i x hx
  exact ⟨y, B, c, e, (b.cell (Go.block_lt_of_cell h1)).trans h1, (b.cell (Go.block_lt_of_cell h2)).trans h2, (b.cell (Go.block_lt_of_cell h3)).trans h3, (b.cell (Go.block_lt_of_cell h4)).trans h4, h5.kept b, h6⟩
theorem eqP_id {x y : PT} (h : (x.id == y.id) = false) : eqP x y = false := by unfold eqP; rw [h]; rfl
theorem eqP_nm {x y : PT} (h : (x.nm.toList == y.nm.toList) = false) : eqP x y = false := by unfold eqP; rw [h]; simp
theorem eqP_may {x y : PT} (h : (x.may == y.may) = false) : eqP x y = false := by unfold eqP; rw [h]; simp
theorem eqP_cs {x y : PT} (h : allEq eqC x.cs y.cs = false) : eqP x y = false := by unfold eqP; rw [h]; simp
theorem eqP_all {x y : PT} (h1 : (x.id == y.id) = true) (h2 : (x.nm.toList == y.nm.toList) = true) (h3 : (x.may == y.may) = true) (h4 : allEq eqC x.cs y.cs = true) : eqP x y = true := by unfold eqP; rw [h1, h2, h3, h4]; rfl
end Go.Proofs.YtmcmmbkodllpkaaGreatDoor.Prt
namespace Go.Proofs.YtmcmmbkodllpkaaGreatDoor.Hdr

open Go.RowKit Go.PlainAid Go.Proofs.YtmcmmbkodllpkaaGreatDoor.Oct Go.Proofs.YtmcmmbkodllpkaaGreatDoor.Flt Go.Proofs.YtmcmmbkodllpkaaGreatDoor.Rdr

set_option linter.unusedVariables false

theorem second_new (w : World) (o p : Obj) : ((w.alloc o).alloc p).heap[w.heap.size + 1]? = some p := by have := heap_alloc_new (w.alloc o) p; simpa using this
def hd0 : Array Value := #[.int .u32 0, .int .u64 0, .int .i64 0, .int .i64 0, .int .i64 0, .int .i64 0, .int .i64 0]
theorem one_hd (h : H7) : (hdC h).all (·.oneCell') = true := by simp [hdC, Value.oneCell']
theorem below_set2 {w W : World} {g : Nat} {cs : Array Value} (h : Below w.heap.size w W) (hg : w.heap.size ≤ g) : Below w.heap.size w (W.setRow g cs) :=
  h.trans ⟨rfl, rfl, rfl, by simp, fun k hk => setRow_other _ _ _ _ (by omega)⟩
end Go.Proofs.YtmcmmbkodllpkaaGreatDoor.Hdr
namespace Go.Proofs.YtmcmmbkodllpkaaGreatDoor.Hdr

open Go.RowKit Go.PlainAid Go.Proofs.YtmcmmbkodllpkaaGreatDoor.Oct Go.Proofs.YtmcmmbkodllpkaaGreatDoor.Flt Go.Proofs.YtmcmmbkodllpkaaGreatDoor.Rdr

set_option linter.unusedVariables false

/-- The count at place i, from 0 on. -/
def cntAt (h : H7) : Nat → Int
  | 0 => h.a
  | 1 => h.b
  | 2 => h.c
  | _ => h.d
theorem bad_at {h : H7} (h0 : ¬ (h.fi < 0 ∨ 255 < h.fi)) {m : Nat} (hm : m < 4) (hall : ∀ j, j < m → fineB j (cntAt h j) = true) (hx : fineB m (cntAt h m) = false) : bad h = (8, ((m + 1 : Nat) : Int)) := by
  unfold bad
  rw [if_neg h0]
  rcases (show m = 0 ∨ m = 1 ∨ m = 2 ∨ m = 3 by omega) with rfl | rfl | rfl | rfl
  · have e : fineB 0 h.a = false := hx
    rw [if_pos e]; rfl
  · have e0 : fineB 0 h.a = true := hall 0 (by omega)
    have e : fineB 1 h.b = false := hx
    rw [e0, e]; rfl
  · have e0 : fineB 0 h.a = true := hall 0 (by omega)
    have e1 : fineB 1 h.b = true := hall 1 (by omega)
    have e : fineB 2 h.c = false := hx
    rw [e0, e1, e]; rfl
  · have e0 : fineB 0 h.a = true := hall 0 (by omega)
    have e1 : fineB 1 h.b = true := hall 1 (by omega)
    have e2 : fineB 2 h.c = true := hall 2 (by omega)
    have e : fineB 3 h.d = false := hx
    rw [e0, e1, e2, e]; rfl
theorem bad_none {h : H7} (h0 : ¬ (h.fi < 0 ∨ 255 < h.fi)) (hall : ∀ j, j < 4 → fineB j (cntAt h j) = true) : bad h = (0, 0) := by
  unfold bad
  rw [if_neg h0]
  have e0 : fineB 0 h.a = true := hall 0 (by omega)
  have e1 : fineB 1 h.b = true := hall 1 (by omega)
  have e2 : fineB 2 h.c = true := hall 2 (by omega)
  have e3 : fineB 3 h.d = true := hall 3 (by omega)
  rw [e0, e1, e2, e3]; rfl
def RRel (h : H7) (w : World) (i : Value) (wr : World) : Prop :=
  ∃ m : Nat, 1 ≤ m ∧ m ≤ 5 ∧ i = .int .i64 m ∧ (∀ j, j < m - 1 → fineB j (cntAt h j) = true) ∧ wr.heap[w.heap.size + 1]? = some (.cells #[.int .i64 0, .int .i64 0, .int .i64 0] 36 (0, 0)) ∧
    wr.heap[w.heap.size + 2]? = some (.cells #[.int .i64 0, .int .i64 h.a, .int .i64 h.b, .int .i64 h.c, .int .i64 h.d] 3 (0, 0)) ∧ Below w.heap.size w wr
theorem third_facts (w : World) (o1 o2 o3 : Obj) : (((w.alloc o1).alloc o2).alloc o3).heap[w.heap.size + 1]? = some o2 ∧ (((w.alloc o1).alloc o2).alloc o3).heap[w.heap.size + 2]? = some o3 ∧ Below w.heap.size w (((w.alloc o1).alloc o2).alloc o3) := by
  refine ⟨?_, ?_, (two_below w o1 o2).alloc (by simp; omega) o3⟩
  · rw [heap_alloc_old _ _ (by simp)]; exact second_new w o1 o2
  · have := heap_alloc_new ((w.alloc o1).alloc o2) o3; simpa using this
end Go.Proofs.YtmcmmbkodllpkaaGreatDoor.Hdr
namespace Go.Proofs.YtmcmmbkodllpkaaGreatDoor.Prt

open Go.RowKit Go.PlainAid Go.Proofs.YtmcmmbkodllpkaaGreatDoor.Oct Go.Proofs.YtmcmmbkodllpkaaGreatDoor.Flt Go.Proofs.YtmcmmbkodllpkaaGreatDoor.Rdr Go.Proofs.YtmcmmbkodllpkaaGreatDoor.Nam

set_option linter.unusedVariables false

set_option linter.unusedSimpArgs false

/-- The first one of which f tells something: what, and its place. -/
def fb {α : Type} (f : List α → α → Nat) (pre : List α) : List α → Nat × Int
  | [] => (0, 0)
  | x :: l => if f pre x = 0 then fb f (pre ++ [x]) l else (f pre x, (pre.length : Int))
theorem fb_step {α : Type} (f : List α → α → Nat) (l : List α) (i : Nat) (x : α) (hx : l[i]? = some x) : fb f (l.take i) (l.drop i) = if f (l.take i) x = 0 then fb f (l.take (i + 1)) (l.drop (i + 1)) else (f (l.take i) x, (i : Int)) := by
  have hi : i < l.length := by
    rcases Nat.lt_or_ge i l.length with h | h
    · exact h
    · rw [List.getElem?_eq_none h] at hx; cases hx
  have hxe : l[i] = x := by rw [List.getElem?_eq_getElem hi] at hx; exact Option.some.inj hx
  have hd : l.drop i = x :: l.drop (i + 1) := by rw [List.drop_eq_getElem_cons hi, hxe]
  have ht : l.take (i + 1) = l.take i ++ [x] := by rw [List.take_succ_eq_append_getElem hi, hxe]
  rw [hd, fb, ht]
  have hl : (l.take i).length = i := by simp; omega
  rw [hl]
theorem fb_end {α : Type} (f : List α → α → Nat) (l : List α) : fb f (l.take l.length) (l.drop l.length) = (0, 0) := by simp [fb]
theorem take_snoc {α : Type} (l : List α) (i : Nat) (x : α) (hx : l[i]? = some x) : l.take (i + 1) = l.take i ++ [x] := by
  have hi : i < l.length := by
    rcases Nat.lt_or_ge i l.length with h | h
    · exact h
    · rw [List.getElem?_eq_none h] at hx; cases hx
  have hxe : l[i] = x := by rw [List.getElem?_eq_getElem hi] at hx; exact Option.some.inj hx
  rw [List.take_succ_eq_append_getElem hi, hxe]
def rg (x : PT) : Nat := rgtP ⟨x.id, x.nm, x.may, none, x.cs.length, 0⟩
def lastP (l : List PT) : Int := (l.getLast?.map PT.id).getD (-1)
theorem lastP_snoc (l : List PT) (x : PT) : lastP (l ++ [x]) = x.id := by simp [lastP]
def b1P (pre : List PT) (x : PT) : Nat := if rg x = 0 then (if x.id ≤ lastP pre then 9 else 0) else rg x
def badP (l : List PT) : Nat × Int := fb b1P [] l
theorem rg_le (x : PT) : rg x ≤ 18 := by unfold rg rgtP; repeat' split
                                         all_goals omega
def sec2 (k : Nat) : Int := if k = 0 then 0 else 2
/-- What the numbers and texts of a partition that came in are like. -/
def WideP (x : PT) : Prop := Hdr.I64 x.id ∧ x.nm.size ≤ maxLen
def WPost (q : Nat × Int) (w : World) (e : Ending) (w' : World) : Prop := ∃ x, e = .returned x ∧ Wrong w' x q.1 (sec2 q.1) q.2 ∧ Below w.heap.size w w'
def WRel (l : List PT) (w : World) (v i : Value) (wr : World) : Prop := ∃ k : Nat, k ≤ l.length ∧ i = .int .i64 k ∧ v = .int .i64 (lastP (l.take k)) ∧ badP l = fb b1P (l.take k) (l.drop k) ∧ Below w.heap.size w wr
end Go.Proofs.YtmcmmbkodllpkaaGreatDoor.Prt

namespace Go.Proofs.YtmcmmbkodllpkaaGreatDoor.Prt

open Go.RowKit Go.PlainAid Go.Proofs.YtmcmmbkodllpkaaGreatDoor.Oct Go.Proofs.YtmcmmbkodllpkaaGreatDoor.Flt Go.Proofs.YtmcmmbkodllpkaaGreatDoor.Rdr Go.Proofs.YtmcmmbkodllpkaaGreatDoor.Nam

open Go.Proofs.YtmcmmbkodllpkaaGreatDoor.Hdr (below_set2)

set_option linter.unusedVariables false

set_option linter.unusedSimpArgs false

def ERel (l : List PT) (w : World) (i : Value) (wr : World) : Prop :=
  ∃ k : Nat, k ≤ l.length ∧ i = .int .i64 k ∧ badP l = fb b1P (l.take k) (l.drop k) ∧ wr.heap[w.heap.size]? = some (.cells #[.int .i64 0, .int .i64 0, .int .i64 0] 36 (0, 0)) ∧ Below w.heap.size w wr
theorem below_drewN {B : Nat} {a w : World} (h : Below B a w) (n : Nat) : Below B a (w.drewN n) := ⟨h.os, h.tape, h.output, h.size, h.block⟩
theorem rg_id {x : PT} (h : rg x = 0) : 0 ≤ x.id := by
  unfold rg rgtP at h
  split at h
  · cases h
  · rename_i h1
    simp at h1
    omega
end Go.Proofs.YtmcmmbkodllpkaaGreatDoor.Prt
namespace Go.Proofs.YtmcmmbkodllpkaaGreatDoor.Oct

open Go.RowKit Go.PlainAid

/-- 'make([]T, m, n)' with cells of one place each. -/
theorem wpList_make_lc {P : Program} (w : World) {ops : Array Oper} {rest : List Oper} {o : Oper} {a : Act} {Q : Exit → Act → World → Prop}
    (hg : o.guard = none) (l c : Operand) (t : TypeId) (hop : o.op = Op.makeSlice t l c)
    (e : TypeId) (i : TypeInfo) (z : Value) (h1 : P.underlying t = some (.slice e)) (h2 : P.info? e = some i) (h3 : i.zero = some z) (h4 : i.size = 1) (hz : z.cells = #[z])
    (kl kc : IntKind) (L C : Int) (m n : Nat) (hl : a.eval l = .int kl L) (hc : a.eval c = .int kc C) (hL : L = (m : Int)) (hC : C = (n : Int)) (hmn : m ≤ n) (b2 : i.bytes * n ≤ 281474976710656) (b3 : n ≤ 9223372036854775807)
    (hK : ∀ w' cur, Hid (cur = List.replicate n z) → Hid (w'.heap[w.heap.size]? = some (.cells cur.toArray e (0, 0))) → Below w.heap.size w w' → wpList P ops Q rest (a.put o.dst (.slice (some ⟨w.heap.size, 0, none⟩) m n)) w') :
    wpList P ops Q (o :: rest) a w := by
  refine wpList_plain hg fun K hK' => ?_
  have hb' : (i.bytes : Int) * (n : Int) ≤ 281474976710656 := by
    have h : ((i.bytes * n : Nat) : Int) ≤ 281474976710656 := by omega
    rwa [Int.natCast_mul] at h
  have hrun := run_make (P := P) w t e i z h1 h2 h3 kl kc m n (by omega) (by omega) hb' (by omega)
  simp only [Int.toNat_natCast, h4, Nat.mul_one, hz] at hrun
  subst hL
  subst hC
  unfold Oper.wp
  simp [execOp, hop, hl, hc, hrun, Result.andThen]
  refine hK' _ _ (hK _ _ rfl ?_ ((Below.refl _ _).alloc (Nat.le_refl _) _))
  show _ = _
  have e1 : madeCells #[z] n = (List.replicate n z).toArray := by
    apply Array.toList_inj.1; rw [toList_madeCells_one]
  rw [e1]
  exact heap_alloc_new _ _

theorem underU8 : Tryz.prog.underlying 72 = some (.slice 5) := Tryz.underlying72
theorem infoU8 : (Tryz.prog.info? 5).map (fun i => (i.zero, i.size, i.bytes)) = some (some (.int .u8 0), 1, 1) := by kernel_rfl
theorem sizeU8 : (Tryz.prog.info? 5).map (·.size) = some 1 := by kernel_rfl

/-- A slice of bytes that reads as xs. -/
def IsBytes (w : World) (A : Option Addr) (n : Nat) (xs : List Int) : Prop :=
  xs.length = n ∧ (0 < n → ∃ ad, A = some ad ∧ ∀ j v, (xs.map (Value.int .u8))[j]? = some v → w.cell? (ad.add j) = some v)

theorem shift_run (v n k m : Nat) (hk : k < n) (hm : 8 * (n : Int) - 8 * k - 8 = (m : Int)) : IntKind.u8.wrap ((v : Int) / 2 ^ m) = ((v / 256 ^ (n - 1 - k) % 256 : Nat) : Int) := by
  have e : m = 8 * (n - 1 - k) := by omega
  subst e
  rw [IntKind.wrap_u8']
  have e2 : (2 : Nat) ^ (8 * (n - 1 - k)) = 256 ^ (n - 1 - k) := by rw [Nat.pow_mul]
  have e3 : (v : Int) / 2 ^ (8 * (n - 1 - k)) = ((v / 2 ^ (8 * (n - 1 - k)) : Nat) : Int) := by rw [Int.natCast_ediv]; simp
  rw [e3, e2]
  omega

theorem cell_lt {w : World} {a : Addr} {v : Value} (h : w.cell? a = some v) : a.block < w.heap.size := by
  rcases Nat.lt_or_ge a.block w.heap.size with hlt | hge
  · exact hlt
  · simp [World.cell?, Array.getElem?_eq_none hge] at h

/-- What Put hands back. -/
def PutPost (w : World) (xs : List Int) (r : Bool) (ys : List Int) (e : Ending) (w' : World) : Prop :=
  ∃ n cap : Nat, e = .returned (.tuple #[.slice (some ⟨w.heap.size, 0, none⟩) n cap, .bool r]) ∧ w'.ownsRow w.heap.size 5 1 (.slice (some ⟨w.heap.size, 0, none⟩) n cap) n ((xs ++ ys).map (Value.int .u8)) ∧ Below w.heap.size w w'

theorem owns_block {w : World} {B n c : Nat} {cs : List Value} (h : w.heap[B]? = some (.cells cs.toArray 5 (0, 0))) (hn : n ≤ c) (hc : cs.length = c) (hm : c ≤ maxLen) :
    w.ownsRow B 5 1 (.slice (some ⟨B, 0, none⟩) n c) n (cs.take n) :=
  ⟨by simp; omega, .inr ⟨B, c, cs.toArray, rfl, Nat.le_refl _, h, hn, hm, by simpa using hc, by simp⟩⟩

end Go.Proofs.YtmcmmbkodllpkaaGreatDoor.Oct
