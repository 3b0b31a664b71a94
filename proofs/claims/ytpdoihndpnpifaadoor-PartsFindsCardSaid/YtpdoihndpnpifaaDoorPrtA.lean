
/- What is wrong with a partition: the program's word and the document's. No condition. Rows of cells, and whether two are one, as the document asks it. No condition. Rows of partitions, and whether two are one, as the document asks it. No condition. -/

import Derived.Test.YtpdoihndpnpifaaDoorNamD

import Derived.Test.YtpdoihndpnpifaaDoorHdrA

import Derived.Test.YtpdoihndpnpifaaDoorActM

import Derived.Deep.QuietTactic

import Derived.BigQuiet

import Derived.BigRegion

namespace Go.Proofs.YtpdoihndpnpifaaDoor.Prt

open Go.RowKit Go.PlainAid Go.Proofs.YtpdoihndpnpifaaDoor.Oct Go.Proofs.YtpdoihndpnpifaaDoor.Flt Go.Proofs.YtpdoihndpnpifaaDoor.Rdr Go.Proofs.YtpdoihndpnpifaaDoor.Nam

set_option linter.unusedVariables false

/-- A partition; its cells lie elsewhere. -/
structure P4 where
  id : Int
  nm : ByteArray
  may : Bool
  A : Option Addr
  len : Nat
  cap : Nat
def ptC (p : P4) : Array Value := #[.int .i64 p.id, .string p.nm, .bool p.may, .slice p.A p.len p.cap]
def rgtP (p : P4) : Nat := if (decide (0 ≤ p.id) && decide (p.id ≤ 255)) = false then 18 else if rightB p.nm = false then 7 else if decide (16 < (p.len : Int)) = true then 8 else 0
set_option maxRecDepth 4000 in
set_option maxHeartbeats 800000 in
theorem pright_any (p : P4) (hid : Hdr.I64 p.id) (hn : p.nm.size ≤ maxLen) (w : World) :
    Calls Tryd.prog 14 #[.agg (ptC p)] w fun e w' => e = .returned (.int .i64 (rgtP p)) ∧ Below w.heap.size w w' := by
  have HB : Hid (∀ o, Below w.heap.size w (w.alloc o)) := fun o => (Below.refl _ _).alloc (Nat.le_refl _) o
  have HF := Lib.hid (fun w => Hdr.fits_first hid w)
  have HR := Lib.hid (fun w => right_any p.nm w hn)
  obtain ⟨id, nm, may, A, len, cap⟩ := p
  unfold rgtP ptC
  dsimp only at *
  clear hid hn
  cases h1 : (decide (0 ≤ id) && decide (id ≤ 255)) with
  | false =>
    rw [h1] at HF
    clear h1 HR
    go_enter Tryd.func14, Tryd.ntmps14
    go_wp2_with (go_at_call 46; refine (HF.out _).mono ?_; rintro e w' ⟨rfl, rfl⟩)
    go_ret
    exact ⟨rfl, HB.out _⟩
  | true =>
    rw [h1] at HF
    clear h1
    cases h2 : rightB nm with
    | false =>
      rw [h2] at HR
      clear h2
      go_enter Tryd.func14, Tryd.ntmps14
      go_wp2_with (first
        | (go_at_call 46; refine (HF.out _).mono ?_; rintro e w' ⟨rfl, rfl⟩)
        | (go_at_call 47; refine (HR.out _).mono ?_; rintro e w' ⟨rfl, rfl⟩))
      go_ret
      exact ⟨rfl, HB.out _⟩
    | true =>
      rw [h2] at HR
      clear h2
      cases h3 : decide (16 < (len : Int))
      all_goals
        go_enter Tryd.func14, Tryd.ntmps14
        go_wp2_with (first
          | (go_at_call 46; refine (HF.out _).mono ?_; rintro e w' ⟨rfl, rfl⟩)
          | (go_at_call 47; refine (HR.out _).mono ?_; rintro e w' ⟨rfl, rfl⟩))
        go_ret
        exact ⟨rfl, HB.out _⟩
set_option maxRecDepth 4000 in
set_option maxHeartbeats 800000 in
theorem pright08_any (p : P4) (hn : p.nm.size ≤ maxLen) (w : World) :
    Calls Tryd.prog 15 #[.agg (ptC p)] w fun e w' => e = .returned (.int .i64 (rgtP p)) ∧ Below w.heap.size w w' := by
  have HB : Hid (∀ o, Below w.heap.size w (w.alloc o)) := fun o => (Below.refl _ _).alloc (Nat.le_refl _) o
  have HR := Lib.hid (fun w => rright_any p.nm w hn)
  obtain ⟨id, nm, may, A, len, cap⟩ := p
  unfold rgtP ptC
  dsimp only at *
  clear hn
  by_cases hx : id < 0 ∨ 255 < id
  · have e1 : (decide (0 ≤ id) && decide (id ≤ 255)) = false := by simp; omega
    rw [if_pos e1]
    rcases (show id < 0 ∨ (¬ id < 0 ∧ 255 < id) by omega) with h | ⟨h, h'⟩
    · have t1 : decide (id < 0) = true := decide_eq_true h
      clear hx h e1 HR
      go_enter Tryd.func15, Tryd.ntmps15
      go_wp2
      go_ret
      exact ⟨rfl, HB.out _⟩
    · have t1 : decide (id < 0) = false := decide_eq_false h
      have t2 : decide (255 < id) = true := decide_eq_true h'
      clear hx h h' e1 HR
      go_enter Tryd.func15, Tryd.ntmps15
      go_wp2
      go_ret
      exact ⟨rfl, HB.out _⟩
  · have e1 : ¬ ((decide (0 ≤ id) && decide (id ≤ 255)) = false) := by simp; omega
    rw [if_neg e1]
    have t1 : decide (id < 0) = false := decide_eq_false (by omega)
    have t2 : decide (255 < id) = false := decide_eq_false (by omega)
    clear hx e1
    cases h2 : rightB nm with
    | false =>
      rw [h2] at HR
      clear h2
      go_enter Tryd.func15, Tryd.ntmps15
      go_wp2_with (go_at_call 48; refine (HR.out _).mono ?_; rintro e w' ⟨rfl, rfl⟩)
      go_ret
      exact ⟨rfl, HB.out _⟩
    | true =>
      rw [h2] at HR
      clear h2
      cases h3 : decide (16 < (len : Int))
      all_goals
        go_enter Tryd.func15, Tryd.ntmps15
        go_wp2_with (go_at_call 48; refine (HR.out _).mono ?_; rintro e w' ⟨rfl, rfl⟩)
        go_ret
        exact ⟨rfl, HB.out _⟩
end Go.Proofs.YtpdoihndpnpifaaDoor.Prt

namespace Go.Proofs.YtpdoihndpnpifaaDoor.Prt

open Go.RowKit Go.PlainAid Go.Proofs.YtpdoihndpnpifaaDoor.Oct Go.Proofs.YtpdoihndpnpifaaDoor.Flt Go.Proofs.YtpdoihndpnpifaaDoor.Rdr Go.Proofs.YtpdoihndpnpifaaDoor.Nam

set_option linter.unusedVariables false

set_option linter.unusedSimpArgs false

/-- A cell: its value, whether it is kept. -/
structure C2 where
  v : Nat
  kept : Bool
def celL (x : C2) : List Value := [.int .u32 x.v, .bool x.kept]
def eqC (x y : C2) : Bool := x.v == y.v && x.kept == y.kept
/-- Cells lie at an address. -/
def CellsAt (w : World) (A : Option Addr) (l : List C2) : Prop :=
  ∀ i x, l[i]? = some x → ∃ y, A = some y ∧ w.cell? (y.add (i * 2)) = some (.int .u32 x.v) ∧ w.cell? ⟨(y.add (i * 2)).block, (y.add (i * 2)).off + 1, none⟩ = some (.bool x.kept)
theorem CellsAt.kept {w w' : World} {A : Option Addr} {l : List C2} (h : CellsAt w A l) (b : Below w.heap.size w w') : CellsAt w' A l := by
  intro i x hx
  obtain ⟨y, e, h1, h2⟩ := h i x hx
  exact ⟨y, e, (b.cell (Go.block_lt_of_cell h1)).trans h1, (b.cell (Go.block_lt_of_cell h2)).trans h2⟩
theorem CellsAt.drewN {w : World} {A : Option Addr} {l : List C2} (h : CellsAt w A l) (n : Nat) : CellsAt (w.drewN n) A l := h
def allEq {α : Type} (eq : α → α → Bool) : List α → List α → Bool
  | [], [] => true
  | x :: l, y :: m => eq x y && allEq eq l m
  | _, _ => false
theorem allEq_len {α : Type} (eq : α → α → Bool) : ∀ l m : List α, l.length ≠ m.length → allEq eq l m = false
  | [], [], h => absurd rfl h
  | [], _ :: _, _ => rfl
  | _ :: _, [], _ => rfl
  | x :: l, y :: m, h => by rw [allEq, allEq_len eq l m (by simpa using h), Bool.and_false]
theorem allEq_no {α : Type} (eq : α → α → Bool) : ∀ (l m : List α) (i : Nat) (x y : α), l[i]? = some x → m[i]? = some y → eq x y = false → allEq eq l m = false
  | [], _, i, x, y, h, _, _ => by simp at h
  | _ :: _, [], i, x, y, _, h, _ => by simp at h
  | a :: l, b :: m, 0, x, y, h1, h2, h3 => by
    obtain rfl : a = x := by simpa using h1
    obtain rfl : b = y := by simpa using h2
    rw [allEq, h3, Bool.false_and]
  | a :: l, b :: m, i + 1, x, y, h1, h2, h3 => by rw [allEq, allEq_no eq l m i x y (by simpa using h1) (by simpa using h2) h3, Bool.and_false]
theorem allEq_yes {α : Type} (eq : α → α → Bool) : ∀ (l m : List α), l.length = m.length → (∀ (i : Nat) (x y : α), l[i]? = some x → m[i]? = some y → eq x y = true) → allEq eq l m = true
  | [], [], _, _ => rfl
  | [], _ :: _, h, _ => by simp at h
  | _ :: _, [], h, _ => by simp at h
  | a :: l, b :: m, h, he => by
    rw [allEq, he 0 a b rfl rfl, allEq_yes eq l m (by simpa using h) (fun i x y h1 h2 => he (i + 1) x y (by simpa using h1) (by simpa using h2))]; rfl
theorem eq_cell (a b : Nat) (c d : Bool) (w : World) : (Op.equalIn 10000 38 (.agg #[.int .u32 a, .bool c]) (.agg #[.int .u32 b, .bool d])).run Tryd.prog w = .ok (((a : Int) == (b : Int)) && (c == d)) w := by
  have hS : Tryd.prog.underlying 38 = some (.struct (Tryd.prog.fieldsOf 38)) := by kernel_rfl
  rw [show (10000 : Nat) = 9999 + 1 from rfl, run_equalIn_agg w 9999 38 _ _ hS (by kernel_rfl)]
  simp only [Program.fieldsOf, Tryd.underlying38]
  go_simp
  by_cases h : (a : Int) = b <;> cases c <;> cases d <;> simp [h]
theorem eqC_int (x y : C2) : (((x.v : Int) == (y.v : Int)) && (x.kept == y.kept)) = eqC x y := by
  unfold eqC
  rw [Bool.eq_iff_iff]; simp; omega
set_option maxRecDepth 4000 in
set_option maxHeartbeats 1600000 in
theorem sameCells_any (A B : Option Addr) (ca cb : Nat) (l m : List C2) (w : World) (h1 : CellsAt w A l) (h2 : CellsAt w B m) (hl : l.length ≤ 1000) (hm : m.length ≤ maxLen) :
    Calls Tryd.prog 17 #[.slice A l.length ca, .slice B m.length cb] w fun e w' => e = .returned (.bool (allEq eqC l m)) ∧ ∃ n, w' = w.drewN n := by
  unfold maxLen at hm
  obtain ⟨a, ha⟩ : ∃ a, l.length = a := ⟨_, rfl⟩
  obtain ⟨b, hb⟩ : ∃ b, m.length = b := ⟨_, rfl⟩
  have HA := Lib.hid ha
  have HB := Lib.hid hb
  rw [ha] at hl
  rw [hb] at hm
  rw [ha, hb]
  by_cases hab : a = b
  · have HAB := Lib.hid hab
    subst hab
    have H1 := Lib.hid h1
    have H2 := Lib.hid h2
    clear h1 h2 ha hb
    have tne : ((a : Int) != (a : Int)) = false := by simp
    go_enter Tryd.func17, Tryd.ntmps17
    go_wp2
    go_loopw [5] (fun i wr => ∃ k n : Nat, k ≤ a ∧ i = .int .i64 k ∧ wr = w.drewN n ∧ ∀ (j : Nat) x y, j < k → l[j]? = some x → m[j]? = some y → eqC x y = true) (fun i _ => a - (intOf i).toNat)
    case atStart => exact ⟨0, 0, Nat.zero_le _, rfl, rfl, fun j x y h => absurd h (by omega)⟩
    case round =>
      obtain ⟨k, n, hk, rfl, hw, hall⟩ := hrel
      have HALL := Lib.hid hall
      have HW := Lib.hid hw
      by_cases hlt : k < a
      · obtain ⟨x, hx⟩ : ∃ x, l[k]? = some x := ⟨_, List.getElem?_eq_getElem (by rw [HA.out]; exact hlt)⟩
        obtain ⟨y, hy⟩ : ∃ y, m[k]? = some y := ⟨_, List.getElem?_eq_getElem (by rw [HB.out]; exact hlt)⟩
        obtain ⟨ax, rfl, c1, c2⟩ := H1.out k x hx
        obtain ⟨ay, rfl, c3, c4⟩ := H2.out k y hy
        have c1' : wr.cell? (ax.add (k * 2)) = some (.int .u32 x.v) := by rw [hw]; exact c1
        have c2' : wr.cell? ⟨(ax.add (k * 2)).block, (ax.add (k * 2)).off + 1, none⟩ = some (.bool x.kept) := by rw [hw]; exact c2
        have c3' : wr.cell? (ay.add (k * 2)) = some (.int .u32 y.v) := by rw [hw]; exact c3
        have c4' : wr.cell? ⟨(ay.add (k * 2)).block, (ay.add (k * 2)).off + 1, none⟩ = some (.bool y.kept) := by rw [hw]; exact c4
        have heq : ∀ wx : World, (Op.equalIn 10000 38 (.agg #[.int .u32 x.v, .bool x.kept]) (.agg #[.int .u32 y.v, .bool y.kept])).run Tryd.prog wx = .ok (eqC x y) wx := fun wx => by rw [← eqC_int]; exact eq_cell x.v y.v x.kept y.kept wx
        have HX := Lib.hid hx
        have HY := Lib.hid hy
        have hki : (0 : Int) ≤ k := by omega
        have hka : (k : Int) < a := by omega
        clear hall hw hx hy c1 c2 c3 c4 H1 H2
        cases hq : eqC x y with
        | true =>
          rw [hq] at heq
          go_wp2
          go_quiet (fail)
          go_wp2
          go_roundw
          case rel => exact ⟨k + 1, n + nq, by omega, by go_num, by rw [HW.out, World.drewN_drewN], fun j x' y' hj h3 h4 => by
            rcases (show j < k ∨ j = k by omega) with h | rfl
            · exact HALL.out j x' y' h h3 h4
            · obtain rfl : x = x' := Option.some.inj (HX.out.symm.trans h3)
              obtain rfl : y = y' := Option.some.inj (HY.out.symm.trans h4)
              first | exact hq | trivial⟩
          case measure => simp [intOf]; omega
        | false =>
          rw [hq] at heq
          have HQ := Lib.hid hq
          clear hq
          go_wp2
          go_quiet (fail)
          go_wp2
          go_ret
          exact ⟨by show Ending.returned (.bool false) = _; rw [allEq_no eqC l m k x y HX.out HY.out HQ.out], n + nq, by rw [HW.out, World.drewN_drewN]⟩
      · obtain rfl : k = a := by omega
        clear hall hw
        go_wp2
        go_ret
        exact ⟨by show Ending.returned (.bool true) = _; rw [allEq_yes eqC l m (by rw [HA.out, HB.out]) (fun i x y h3 h4 => HALL.out i x y (by
          rcases Nat.lt_or_ge i l.length with hh | hh
          · rw [HA.out] at hh; exact hh
          · rw [List.getElem?_eq_none hh] at h3; cases h3) h3 h4)], n, HW.out⟩
  · have tne : ((a : Int) != (b : Int)) = true := by simp; omega
    have HE : Hid (allEq eqC l m = false) := allEq_len eqC l m (by rw [ha, hb]; exact hab)
    clear h1 h2 ha hb hab
    go_enter Tryd.func17, Tryd.ntmps17
    go_wp2
    go_ret
    exact ⟨by show Ending.returned (.bool false) = _; rw [HE.out], 0, rfl⟩
end Go.Proofs.YtpdoihndpnpifaaDoor.Prt

namespace Go.Proofs.YtpdoihndpnpifaaDoor.Prt

open Go.RowKit Go.PlainAid Go.Proofs.YtpdoihndpnpifaaDoor.Oct Go.Proofs.YtpdoihndpnpifaaDoor.Flt Go.Proofs.YtpdoihndpnpifaaDoor.Rdr Go.Proofs.YtpdoihndpnpifaaDoor.Nam

set_option linter.unusedVariables false

set_option linter.unusedSimpArgs false

/-- A partition, with its cells. -/
structure PT where
  id : Int
  nm : ByteArray
  may : Bool
  cs : List C2
def eqP (x y : PT) : Bool := x.id == y.id && (x.nm.toList == y.nm.toList) && x.may == y.may && allEq eqC x.cs y.cs
/-- Partitions lie at an address. -/
def PartsAt (w : World) (A : Option Addr) (l : List PT) : Prop :=
  ∀ i x, l[i]? = some x → ∃ y B c, A = some y ∧ w.cell? (y.add (i * 4)) = some (.int .i64 x.id) ∧ w.cell? ⟨(y.add (i * 4)).block, (y.add (i * 4)).off + 1, none⟩ = some (.string x.nm) ∧ w.cell? ⟨(y.add (i * 4)).block, (y.add (i * 4)).off + 2, none⟩ = some (.bool x.may) ∧
    w.cell? ⟨(y.add (i * 4)).block, (y.add (i * 4)).off + 3, none⟩ = some (.slice B x.cs.length c) ∧ CellsAt w B x.cs ∧ (B = none → c = 0) ∧ x.cs.length ≤ c ∧ c ≤ maxLen
theorem PartsAt.kept {w w' : World} {A : Option Addr} {l : List PT} (h : PartsAt w A l) (b : Below w.heap.size w w') : PartsAt w' A l := by
  intro i x hx
  obtain ⟨y, B, c, e, h1, h2, h3, h4, h5, h6⟩ := h i x hx
  exact ⟨y, B, c, e, (b.cell (Go.block_lt_of_cell h1)).trans h1, (b.cell (Go.block_lt_of_cell h2)).trans h2, (b.cell (Go.block_lt_of_cell h3)).trans h3, (b.cell (Go.block_lt_of_cell h4)).trans h4, h5.kept b, h6⟩
theorem eqP_id {x y : PT} (h : (x.id == y.id) = false) : eqP x y = false := by unfold eqP; rw [h]; rfl
theorem eqP_nm {x y : PT} (h : (x.nm.toList == y.nm.toList) = false) : eqP x y = false := by unfold eqP; rw [h]; simp
theorem eqP_may {x y : PT} (h : (x.may == y.may) = false) : eqP x y = false := by unfold eqP; rw [h]; simp
theorem eqP_cs {x y : PT} (h : allEq eqC x.cs y.cs = false) : eqP x y = false := by unfold eqP; rw [h]; simp
theorem eqP_all {x y : PT} (h1 : (x.id == y.id) = true) (h2 : (x.nm.toList == y.nm.toList) = true) (h3 : (x.may == y.may) = true) (h4 : allEq eqC x.cs y.cs = true) : eqP x y = true := by unfold eqP; rw [h1, h2, h3, h4]; rfl
set_option maxRecDepth 8000 in
set_option maxHeartbeats 3200000 in
theorem sameParts_any (A B : Option Addr) (ca cb : Nat) (l m : List PT) (w : World) (h1 : PartsAt w A l) (h2 : PartsAt w B m) (hl : l.length ≤ 1000) (hm : m.length ≤ maxLen) (hc : ∀ x ∈ l, x.cs.length ≤ 1000) :
    Calls Tryd.prog 13 #[.slice A l.length ca, .slice B m.length cb] w fun e w' => e = .returned (.bool (allEq eqP l m)) ∧ ∃ n, w' = w.drewN n := by
  unfold maxLen at hm
  obtain ⟨a, ha⟩ : ∃ a, l.length = a := ⟨_, rfl⟩
  obtain ⟨b, hb⟩ : ∃ b, m.length = b := ⟨_, rfl⟩
  have HA := Lib.hid ha
  have HB := Lib.hid hb
  rw [ha] at hl
  rw [hb] at hm
  rw [ha, hb]
  by_cases hab : a = b
  · have HAB := Lib.hid hab
    subst hab
    have H1 := Lib.hid h1
    have H2 := Lib.hid h2
    have HC := Lib.hid hc
    clear h1 h2 ha hb hc
    have tne : ((a : Int) != (a : Int)) = false := by simp
    go_enter Tryd.func13, Tryd.ntmps13
    go_wp2
    go_loopw [5] (fun i wr => ∃ k n : Nat, k ≤ a ∧ i = .int .i64 k ∧ wr = w.drewN n ∧ ∀ (j : Nat) x y, j < k → l[j]? = some x → m[j]? = some y → eqP x y = true) (fun i _ => a - (intOf i).toNat)
    case atStart => exact ⟨0, 0, Nat.zero_le _, rfl, rfl, fun j x y h => absurd h (by omega)⟩
    case round =>
      obtain ⟨k, n, hk, rfl, hw, hall⟩ := hrel
      have HALL := Lib.hid hall
      have HW := Lib.hid hw
      by_cases hlt : k < a
      · obtain ⟨x, hx⟩ : ∃ x, l[k]? = some x := ⟨_, List.getElem?_eq_getElem (by rw [HA.out]; exact hlt)⟩
        obtain ⟨y, hy⟩ : ∃ y, m[k]? = some y := ⟨_, List.getElem?_eq_getElem (by rw [HB.out]; exact hlt)⟩
        obtain ⟨ax, Bx, cx, rfl, c1, c2, c3, c4, c5, _, c6, c7⟩ := H1.out k x hx
        obtain ⟨ay, By, cy, rfl, d1, d2, d3, d4, d5, _, d6, d7⟩ := H2.out k y hy
        have hcx : x.cs.length ≤ 1000 := HC.out x (List.mem_of_getElem? hx)
        have c1' : wr.cell? (ax.add (k * 4)) = some (.int .i64 x.id) := by rw [hw]; exact c1
        have c2' : wr.cell? ⟨(ax.add (k * 4)).block, (ax.add (k * 4)).off + 1, none⟩ = some (.string x.nm) := by rw [hw]; exact c2
        have c3' : wr.cell? ⟨(ax.add (k * 4)).block, (ax.add (k * 4)).off + 2, none⟩ = some (.bool x.may) := by rw [hw]; exact c3
        have c4' : wr.cell? ⟨(ax.add (k * 4)).block, (ax.add (k * 4)).off + 3, none⟩ = some (.slice Bx x.cs.length cx) := by rw [hw]; exact c4
        have d1' : wr.cell? (ay.add (k * 4)) = some (.int .i64 y.id) := by rw [hw]; exact d1
        have d2' : wr.cell? ⟨(ay.add (k * 4)).block, (ay.add (k * 4)).off + 1, none⟩ = some (.string y.nm) := by rw [hw]; exact d2
        have d3' : wr.cell? ⟨(ay.add (k * 4)).block, (ay.add (k * 4)).off + 2, none⟩ = some (.bool y.may) := by rw [hw]; exact d3
        have d4' : wr.cell? ⟨(ay.add (k * 4)).block, (ay.add (k * 4)).off + 3, none⟩ = some (.slice By y.cs.length cy) := by rw [hw]; exact d4
        have HSC : Hid (∀ q, Calls Tryd.prog 17 #[.slice Bx x.cs.length cx, .slice By y.cs.length cy] (wr.drewN q) fun e w' => e = .returned (.bool (allEq eqC x.cs y.cs)) ∧ ∃ n, w' = (wr.drewN q).drewN n) := fun q =>
          sameCells_any Bx By cx cy x.cs y.cs (wr.drewN q) (by rw [hw]; exact c5) (by rw [hw]; exact d5) hcx (by omega)
        have HX := Lib.hid hx
        have HY := Lib.hid hy
        have hki : (0 : Int) ≤ k := by omega
        have hka : (k : Int) < a := by omega
        obtain ⟨id, nm, may, cs⟩ := x
        obtain ⟨id', nm', may', cs'⟩ := y
        dsimp only at c1' c2' c3' c4' d1' d2' d3' d4' HSC
        obtain ⟨L1, hL1⟩ : ∃ L1, cs.length = L1 := ⟨_, rfl⟩
        obtain ⟨L2, hL2⟩ : ∃ L2, cs'.length = L2 := ⟨_, rfl⟩
        rw [hL1] at c4' HSC
        rw [hL2] at d4' HSC
        clear hall hw hx hy c1 c2 c3 c4 c5 c6 c7 d1 d2 d3 d4 d5 d6 d7 H1 H2 HC hcx hL1 hL2
        cases q1 : (id == id') with
        | false =>
          have t1 : (id != id') = true := by unfold bne; rw [q1]; rfl
          have HE : Hid (eqP ⟨id, nm, may, cs⟩ ⟨id', nm', may', cs'⟩ = false) := eqP_id q1
          clear q1
          go_wp2
          go_quiet (fail)
          go_wp2
          go_ret
          exact ⟨by show Ending.returned (.bool false) = _; rw [allEq_no eqP l m k _ _ HX.out HY.out HE.out], n + nq, by rw [HW.out, World.drewN_drewN]⟩
        | true =>
          have t1 : (id != id') = false := by unfold bne; rw [q1]; rfl
          have Q1 := Lib.hid q1
          clear q1
          cases q2 : (nm.toList == nm'.toList) with
          | false =>
            have t2 : (nm.toList != nm'.toList) = true := by unfold bne; rw [q2]; rfl
            have HE : Hid (eqP ⟨id, nm, may, cs⟩ ⟨id', nm', may', cs'⟩ = false) := eqP_nm q2
            go_wp2
            go_quiet (fail)
            go_wp2
            go_ret
            exact ⟨by show Ending.returned (.bool false) = _; rw [allEq_no eqP l m k _ _ HX.out HY.out HE.out], n + nq, by rw [HW.out, World.drewN_drewN]⟩
          | true =>
            have t2 : (nm.toList != nm'.toList) = false := by unfold bne; rw [q2]; rfl
            have Q2 := Lib.hid q2
            cases q3 : (may == may') with
            | false =>
              have t3 : (may != may') = true := by unfold bne; rw [q3]; rfl
              have HE : Hid (eqP ⟨id, nm, may, cs⟩ ⟨id', nm', may', cs'⟩ = false) := eqP_may q3
              go_wp2
              go_quiet (fail)
              go_wp2
              go_ret
              exact ⟨by show Ending.returned (.bool false) = _; rw [allEq_no eqP l m k _ _ HX.out HY.out HE.out], n + nq, by rw [HW.out, World.drewN_drewN]⟩
            | true =>
              have t3 : (may != may') = false := by unfold bne; rw [q3]; rfl
              have Q3 := Lib.hid q3
              cases q4 : allEq eqC cs cs' with
              | false =>
                rw [q4] at HSC
                have HE : Hid (eqP ⟨id, nm, may, cs⟩ ⟨id', nm', may', cs'⟩ = false) := eqP_cs q4
                clear q4
                go_wp2
                go_quiet ((go_at_call 17; exact Calls.quiet_of (HSC.out _)))
                go_wp2
                go_ret
                exact ⟨by show Ending.returned (.bool false) = _; rw [allEq_no eqP l m k _ _ HX.out HY.out HE.out], n + nq, by rw [HW.out, World.drewN_drewN]⟩
              | true =>
                rw [q4] at HSC
                have HE : Hid (eqP ⟨id, nm, may, cs⟩ ⟨id', nm', may', cs'⟩ = true) := eqP_all Q1.out Q2.out Q3.out q4
                clear q4
                go_wp2
                go_quiet ((go_at_call 17; exact Calls.quiet_of (HSC.out _)))
                go_wp2
                go_roundw
                case rel => exact ⟨k + 1, n + nq, by omega, by go_num, by rw [HW.out, World.drewN_drewN], fun j x' y' hj h3 h4 => by
                  rcases (show j < k ∨ j = k by omega) with h | rfl
                  · exact HALL.out j x' y' h h3 h4
                  · obtain rfl := Option.some.inj (HX.out.symm.trans h3)
                    obtain rfl := Option.some.inj (HY.out.symm.trans h4)
                    exact HE.out⟩
                case measure => simp [intOf]; omega
      · obtain rfl : k = a := by omega
        clear hall hw
        go_wp2
        go_ret
        exact ⟨by show Ending.returned (.bool true) = _; rw [allEq_yes eqP l m (by rw [HA.out, HB.out]) (fun i x y h3 h4 => HALL.out i x y (by
          rcases Nat.lt_or_ge i l.length with hh | hh
          · rw [HA.out] at hh; exact hh
          · rw [List.getElem?_eq_none hh] at h3; cases h3) h3 h4)], n, HW.out⟩
  · have tne : ((a : Int) != (b : Int)) = true := by simp; omega
    have HE : Hid (allEq eqP l m = false) := allEq_len eqP l m (by rw [ha, hb]; exact hab)
    clear h1 h2 ha hb hab hc
    go_enter Tryd.func13, Tryd.ntmps13
    go_wp2
    go_ret
    exact ⟨by show Ending.returned (.bool false) = _; rw [HE.out], 0, rfl⟩
end Go.Proofs.YtpdoihndpnpifaaDoor.Prt
