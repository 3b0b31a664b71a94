
/- What package parts' Same, Find and Clone say. Condition: none of their own. What the clones of cells and of partitions are. Condition: none of their own. -/

import Derived.Test.YtpdoihndpnpifaaDoorPrtL

import Derived.BigQuiet

import Derived.BigRegion

namespace Go.Proofs.YtpdoihndpnpifaaDoor.Prt

open Go.RowKit Go.PlainAid Go.Proofs.YtpdoihndpnpifaaDoor.Oct Go.Proofs.YtpdoihndpnpifaaDoor.Flt Go.Proofs.YtpdoihndpnpifaaDoor.Rdr Go.Proofs.YtpdoihndpnpifaaDoor.Nam

set_option linter.unusedVariables false

set_option linter.unusedSimpArgs false

set_option maxRecDepth 4000 in
set_option maxHeartbeats 1600000 in
theorem eqCells_any (A B : Option Addr) (ca cb : Nat) (l m : List C2) (w : World) (h1 : CellsAt w A l) (h2 : CellsAt w B m) (hl : l.length ≤ 1000) (hm : m.length ≤ maxLen) :
    Calls Tryd.prog 45 #[.slice A l.length ca, .slice B m.length cb] w fun e w' => e = .returned (.bool (allEq eqC l m)) ∧ ∃ n, w' = w.drewN n := by
  unfold maxLen at hm
  obtain ⟨a, ha⟩ : ∃ a, l.length = a := ⟨_, rfl⟩
  obtain ⟨b, hb⟩ : ∃ b, m.length = b := ⟨_, rfl⟩
  have HA := Lib.hid ha
  have HB := Lib.hid hb
  rw [ha] at hl
  rw [hb] at hm
  rw [ha, hb]
  by_cases hab : a = b
  · have HAB := Lib.hid hab
    subst hab
    have H1 := Lib.hid h1
    have H2 := Lib.hid h2
    clear h1 h2 ha hb
    have tne : ((a : Int) != (a : Int)) = false := by simp
    go_enter Tryd.func45, Tryd.ntmps45
    go_wp2
    go_loopw [13] (fun i wr => ∃ k n : Nat, k ≤ a ∧ i = .int .i64 k ∧ wr = w.drewN n ∧ ∀ (j : Nat) x y, j < k → l[j]? = some x → m[j]? = some y → eqC x y = true) (fun i _ => a - (intOf i).toNat)
    case atStart => exact ⟨0, 0, Nat.zero_le _, rfl, rfl, fun j x y h => absurd h (by omega)⟩
    case round =>
      obtain ⟨k, n, hk, rfl, hw, hall⟩ := hrel
      have HALL := Lib.hid hall
      have HW := Lib.hid hw
      by_cases hlt : k < a
      · obtain ⟨x, hx⟩ : ∃ x, l[k]? = some x := ⟨_, List.getElem?_eq_getElem (by rw [HA.out]; exact hlt)⟩
        obtain ⟨y, hy⟩ : ∃ y, m[k]? = some y := ⟨_, List.getElem?_eq_getElem (by rw [HB.out]; exact hlt)⟩
        obtain ⟨ax, rfl, c1, c2⟩ := H1.out k x hx
        obtain ⟨ay, rfl, c3, c4⟩ := H2.out k y hy
        have c1' : wr.cell? (ax.add (k * 2)) = some (.int .u32 x.v) := by rw [hw]; exact c1
        have c2' : wr.cell? ⟨(ax.add (k * 2)).block, (ax.add (k * 2)).off + 1, none⟩ = some (.bool x.kept) := by rw [hw]; exact c2
        have c3' : wr.cell? (ay.add (k * 2)) = some (.int .u32 y.v) := by rw [hw]; exact c3
        have c4' : wr.cell? ⟨(ay.add (k * 2)).block, (ay.add (k * 2)).off + 1, none⟩ = some (.bool y.kept) := by rw [hw]; exact c4
        have heq : ∀ wx : World, (Op.equalIn 10000 38 (.agg #[.int .u32 x.v, .bool x.kept]) (.agg #[.int .u32 y.v, .bool y.kept])).run Tryd.prog wx = .ok (eqC x y) wx := fun wx => by rw [← eqC_int]; exact eq_cell x.v y.v x.kept y.kept wx
        have HX := Lib.hid hx
        have HY := Lib.hid hy
        have hki : (0 : Int) ≤ k := by omega
        have hka : (k : Int) < a := by omega
        clear hall hw hx hy c1 c2 c3 c4 H1 H2
        cases hq : eqC x y with
        | true =>
          rw [hq] at heq
          go_wp2
          go_quiet (fail)
          go_wp2
          go_roundw
          case rel => exact ⟨k + 1, n + nq, by omega, by go_num, by rw [HW.out, World.drewN_drewN], fun j x' y' hj h3 h4 => by
            rcases (show j < k ∨ j = k by omega) with h | rfl
            · exact HALL.out j x' y' h h3 h4
            · obtain rfl : x = x' := Option.some.inj (HX.out.symm.trans h3)
              obtain rfl : y = y' := Option.some.inj (HY.out.symm.trans h4)
              first | exact hq | trivial⟩
          case measure => simp [intOf]; omega
        | false =>
          rw [hq] at heq
          have HQ := Lib.hid hq
          clear hq
          go_wp2
          go_quiet (fail)
          go_wp2
          go_ret
          exact ⟨by show Ending.returned (.bool false) = _; rw [allEq_no eqC l m k x y HX.out HY.out HQ.out], n + nq, by rw [HW.out, World.drewN_drewN]⟩
      · obtain rfl : k = a := by omega
        clear hall hw
        go_wp2
        go_ret
        exact ⟨by show Ending.returned (.bool true) = _; rw [allEq_yes eqC l m (by rw [HA.out, HB.out]) (fun i x y h3 h4 => HALL.out i x y (by
          rcases Nat.lt_or_ge i l.length with hh | hh
          · rw [HA.out] at hh; exact hh
          · rw [List.getElem?_eq_none hh] at h3; cases h3) h3 h4)], n, HW.out⟩
  · have tne : ((a : Int) != (b : Int)) = true := by simp; omega
    have HE : Hid (allEq eqC l m = false) := allEq_len eqC l m (by rw [ha, hb]; exact hab)
    clear h1 h2 ha hb hab
    go_enter Tryd.func45, Tryd.ntmps45
    go_wp2
    go_ret
    exact ⟨by show Ending.returned (.bool false) = _; rw [HE.out], 0, rfl⟩
set_option maxRecDepth 4000 in
set_option maxHeartbeats 1600000 in
theorem psame_any (x y : PT) (A B : Option Addr) (ca cb : Nat) (w : World) (h1 : CellsAt w A x.cs) (h2 : CellsAt w B y.cs) (hl : x.cs.length ≤ 1000) (hm : y.cs.length ≤ maxLen) :
    Calls Tryd.prog 12 #[.agg #[.int .i64 x.id, .string x.nm, .bool x.may, .slice A x.cs.length ca], .agg #[.int .i64 y.id, .string y.nm, .bool y.may, .slice B y.cs.length cb]] w fun e w' => e = .returned (.bool (eqP x y)) ∧ Below w.heap.size w w' := by
  have HB2 : Hid (∀ o o', Below w.heap.size w ((w.alloc o).alloc o')) := fun o o' => two_below w o o'
  have HQ : Hid (∀ W, Below w.heap.size w W → Calls Tryd.prog 45 #[.slice A x.cs.length ca, .slice B y.cs.length cb] W fun e w' => e = .returned (.bool (allEq eqC x.cs y.cs)) ∧ ∃ n, w' = W.drewN n) := fun W b => eqCells_any A B ca cb x.cs y.cs W (h1.kept b) (h2.kept b) hl hm
  clear h1 h2 hl hm
  cases t1 : (x.id == y.id) with
  | false =>
    rw [eqP_id t1]
    clear HQ
    obtain ⟨i1, n1, m1, c1⟩ := x
    obtain ⟨i2, n2, m2, c2⟩ := y
    dsimp only at t1 ⊢
    go_enter Tryd.func12, Tryd.ntmps12
    go_wp2
    go_ret
    exact ⟨rfl, HB2.out _ _⟩
  | true =>
    cases t2 : (x.nm.toList == y.nm.toList) with
    | false =>
      rw [eqP_nm t2]
      clear HQ
      obtain ⟨i1, n1, m1, c1⟩ := x
      obtain ⟨i2, n2, m2, c2⟩ := y
      dsimp only at t1 t2 ⊢
      go_enter Tryd.func12, Tryd.ntmps12
      go_wp2
      go_ret
      exact ⟨rfl, HB2.out _ _⟩
    | true =>
      cases t3 : (x.may == y.may) with
      | false =>
        rw [eqP_may t3]
        clear HQ
        obtain ⟨i1, n1, m1, c1⟩ := x
        obtain ⟨i2, n2, m2, c2⟩ := y
        dsimp only at t1 t2 t3 ⊢
        go_enter Tryd.func12, Tryd.ntmps12
        go_wp2
        go_ret
        exact ⟨rfl, HB2.out _ _⟩
      | true =>
        have e : eqP x y = allEq eqC x.cs y.cs := by unfold eqP; rw [t1, t2, t3]; rfl
        rw [e]
        obtain ⟨b, hb⟩ : ∃ b, allEq eqC x.cs y.cs = b := ⟨_, rfl⟩
        rw [hb] at HQ ⊢
        clear e hb
        obtain ⟨i1, n1, m1, c1⟩ := x
        obtain ⟨i2, n2, m2, c2⟩ := y
        dsimp only at t1 t2 t3 HQ ⊢
        go_enter Tryd.func12, Tryd.ntmps12
        go_wp2_with (go_at_call 45; refine (HQ.out _ (HB2.out _ _)).mono ?_; rintro e w1 ⟨rfl, n, rfl⟩)
        go_ret
        exact ⟨rfl, below_drewN (HB2.out _ _) n⟩
/-- The first place of an id. -/
def fiN (id : Int) : List PT → Option Nat
  | [] => none
  | x :: l => if x.id == id then some 0 else (fiN id l).map (· + 1)
theorem fi_hit (id : Int) : ∀ (l : List PT) (k : Nat) (x : PT), l[k]? = some x → (x.id == id) = true → (∀ (j : Nat) (y : PT), j < k → l[j]? = some y → (y.id == id) = false) → fiN id l = some k
  | [], k, x, h, _, _ => by simp at h
  | y :: l, 0, x, h, hx, _ => by
    obtain rfl : y = x := by simpa using h
    rw [fiN, if_pos hx]
  | y :: l, k + 1, x, h, hx, hall => by
    have h0 := hall 0 y (by omega) (by simp)
    rw [fiN, if_neg (by simp [h0]), fi_hit id l k x (by simpa using h) hx (fun j z hj hz => hall (j + 1) z (by omega) (by simpa using hz))]
    rfl
theorem fi_none (id : Int) : ∀ (l : List PT), (∀ (j : Nat) (y : PT), l[j]? = some y → (y.id == id) = false) → fiN id l = none
  | [], _ => rfl
  | y :: l, hall => by
    have h0 := hall 0 y (by simp)
    rw [fiN, if_neg (by simp [h0]), fi_none id l (fun j z hz => hall (j + 1) z (by simpa using hz))]
    rfl
theorem pred_any (x : PT) (B : Option Addr) (c b : Nat) (id : Int) (w : World) (hb : w.cell? ⟨b, 0, none⟩ = some (.int .i64 id)) :
    Calls Tryd.prog 44 #[.agg #[.int .i64 x.id, .string x.nm, .bool x.may, .slice B x.cs.length c], .pointer (some ⟨b, 0, none⟩)] w fun e w' => e = .returned (.bool (x.id == id)) ∧ Below w.heap.size w w' := by
  have HB : Hid (∀ o, Below w.heap.size w (w.alloc o)) := fun o => (Below.refl _ _).alloc (Nat.le_refl _) o
  have hb2 := fun o => ((HB.out o).cell (Go.block_lt_of_cell hb)).trans hb
  obtain ⟨i1, n1, m1, c1⟩ := x
  dsimp only
  obtain ⟨t, ht⟩ : ∃ t, (i1 == id) = t := ⟨_, rfl⟩
  rw [ht]
  clear hb
  go_enter Tryd.func44, Tryd.ntmps44
  go_wp2
  go_ret
  exact ⟨rfl, HB.out _⟩
def fiI : Option Nat → Int
  | none => -1
  | some k => k
def IRel (l : List PT) (id : Int) (w : World) (i : Value) (wr : World) : Prop := ∃ k : Nat, k ≤ l.length ∧ i = .int .i64 k ∧ (∀ (j : Nat) (y : PT), j < k → l[j]? = some y → (y.id == id) = false) ∧ Below w.heap.size w wr
set_option maxRecDepth 4000 in
set_option maxHeartbeats 1600000 in
theorem index_any (A : Option Addr) (cap : Nat) (l : List PT) (b : Nat) (id : Int) (w : World) (h1 : PartsAt w A l) (hl : l.length ≤ 1000) (hb : w.cell? ⟨b, 0, none⟩ = some (.int .i64 id)) :
    Calls Tryd.prog 43 #[.slice A l.length cap, .func (.func 44) #[] #[.pointer (some ⟨b, 0, none⟩)]] w fun e w' => e = .returned (.int .i64 (fiI (fiN id l))) ∧ Below w.heap.size w w' := by
  have H1 := Lib.hid h1
  have HP : Hid (∀ W, Below w.heap.size w W → W.cell? ⟨b, 0, none⟩ = some (.int .i64 id)) := fun W hw => (hw.cell (Go.block_lt_of_cell hb)).trans hb
  have HBK := Lib.hid (Go.block_lt_of_cell hb)
  obtain ⟨a, ha⟩ : ∃ a, l.length = a := ⟨_, rfl⟩
  have HA := Lib.hid ha
  rw [ha] at hl
  rw [ha]
  clear h1 ha hb
  go_enter Tryd.func43, Tryd.ntmps43
  go_wp2
  go_loopw [8] (fun i wr => IRel l id w i wr) (fun i _ => a - (intOf i).toNat)
  case atStart => exact ⟨0, Nat.zero_le _, rfl, fun j x hj => by omega, Below.refl _ _⟩
  case round =>
    obtain ⟨k, hk, rfl, hb, hbel⟩ := hrel
    have HB := Lib.hid hb
    have HE := Lib.hid hbel
    have hka : k ≤ a := by rw [← HA.out]; exact hk
    clear hb hk hbel
    by_cases hlt : k < a
    · obtain ⟨x, hx⟩ : ∃ x, l[k]? = some x := ⟨_, List.getElem?_eq_getElem (by rw [HA.out]; exact hlt)⟩
      obtain ⟨ax, B, c, rfl, c1, c2, c3, c4, c5, _, c6, c7⟩ := (H1.out.kept HE.out) k x hx
      have HX := Lib.hid hx
      have HC := Lib.hid (pred_any x B c b id wr (HP.out _ HE.out))
      have hki : (0 : Int) ≤ k := by omega
      have hkb : (k : Int) < a := by omega
      obtain ⟨t, ht⟩ : ∃ t, (x.id == id) = t := ⟨_, rfl⟩
      rw [ht] at HC
      have HT := Lib.hid ht
      obtain ⟨L1, hL1⟩ : ∃ L1, x.cs.length = L1 := ⟨_, rfl⟩
      rw [hL1] at c4 HC
      clear hx c5 c6 c7 hL1 ht
      go_wp2_with fail
      refine HC.out.mono ?_
      rintro e w2 ⟨rfl, hb2⟩
      have HB2 := Lib.hid (HE.out.trans (hb2.mono HE.out.size))
      clear hb2
      cases t with
      | true =>
        have HF := Lib.hid (fi_hit id l k x HX.out HT.out HB.out)
        go_wp2
        go_ret
        exact ⟨by rw [HF.out]; rfl, HB2.out⟩
      | false =>
        go_wp2
        go_roundw
        case rel => exact ⟨k + 1, by rw [HA.out]; omega, by go_num, fun j y hj hy => by
          by_cases hjk : j = k
          · subst hjk
            rw [HX.out] at hy
            obtain rfl := Option.some.inj hy
            exact HT.out
          · exact HB.out j y (by omega) hy, HB2.out⟩
        case measure => simp [intOf]; omega
    · obtain rfl : k = a := by omega
      have HF := Lib.hid (fi_none id l (fun j y hy => HB.out j y (by rw [← HA.out]; exact (List.getElem?_eq_some_iff.1 hy).1) hy))
      go_wp2
      go_ret
      exact ⟨by rw [HF.out]; rfl, HE.out⟩
theorem fi_lt (id : Int) : ∀ (l : List PT) (k : Nat), fiN id l = some k → k < l.length
  | [], k, h => by cases h
  | y :: l, k, h => by
    rw [fiN] at h
    split at h
    · obtain rfl := Option.some.inj h; simp
    · obtain ⟨j, hj, rfl⟩ := Option.map_eq_some_iff.1 h
      have := fi_lt id l j hj
      simp; omega
def fiV (o : Option Nat) : Nat := o.getD 0
set_option maxRecDepth 4000 in
theorem find_any (A : Option Addr) (cap : Nat) (l : List PT) (id : Int) (w : World) (h1 : PartsAt w A l) (hl : l.length ≤ 1000) :
    Calls Tryd.prog 11 #[.slice A l.length cap, .int .i64 id] w fun e w' => e = .returned (.tuple #[.int .i64 (fiV (fiN id l)), .bool (fiN id l).isSome]) ∧ Below w.heap.size w w' := by
  have hb : Below w.heap.size w (w.alloc (.cells #[.int .i64 id] 3)) := (Below.refl _ _).alloc (Nat.le_refl _) _
  have HI := Lib.hid (index_any A cap l w.heap.size id _ (h1.kept hb) hl (by rw [cell_of_row _ _ 0 _ _ _ (heap_alloc_new w (.cells #[.int .i64 id] 3))]; rfl))
  have HB := Lib.hid hb
  obtain ⟨a, ha⟩ : ∃ a, l.length = a := ⟨_, rfl⟩
  have hlt := fi_lt id l
  rw [ha] at HI hl hlt
  rw [ha]
  obtain ⟨o, ho⟩ : ∃ o, fiN id l = o := ⟨_, rfl⟩
  rw [ho] at HI hlt
  rw [ho]
  clear hb h1 ha ho
  cases o with
  | none =>
    unfold fiI at HI
    clear hlt
    go_enter Tryd.func11, Tryd.ntmps11
    go_wp2_with fail
    refine HI.out.mono ?_
    rintro e w2 ⟨rfl, hb2⟩
    have HB2 := Lib.hid (HB.out.trans (hb2.mono HB.out.size))
    clear hb2
    go_wp2
    go_ret2
    exact ⟨rfl, HB2.out⟩
  | some k =>
    have hk := hlt k rfl
    unfold fiI at HI
    have hki : (0 : Int) ≤ k := by omega
    have tm : max (k : Int) 0 = k := by omega
    clear hlt
    go_enter Tryd.func11, Tryd.ntmps11
    go_wp2_with fail
    refine HI.out.mono ?_
    rintro e w2 ⟨rfl, hb2⟩
    have HB2 := Lib.hid (HB.out.trans (hb2.mono HB.out.size))
    clear hb2
    go_wp2
    go_ret2
    exact ⟨rfl, HB2.out⟩
end Go.Proofs.YtpdoihndpnpifaaDoor.Prt

namespace Go.Proofs.YtpdoihndpnpifaaDoor.Prt

open Go.RowKit Go.PlainAid Go.Proofs.YtpdoihndpnpifaaDoor.Oct Go.Proofs.YtpdoihndpnpifaaDoor.Flt Go.Proofs.YtpdoihndpnpifaaDoor.Rdr Go.Proofs.YtpdoihndpnpifaaDoor.Nam

set_option linter.unusedVariables false

set_option linter.unusedSimpArgs false

theorem add_more (y : Addr) (n m : Nat) (h : 0 < m) : (⟨(y.add n).block, (y.add n).off + m, none⟩ : Addr) = y.add (n + m) := by
  obtain ⟨b, o, s⟩ := y
  cases n with
  | zero => cases m with
    | zero => omega
    | succ m => simp [Addr.add]
  | succ n => cases m with
    | zero => omega
    | succ m => simp [Addr.add]; omega
theorem cells_flat {w : World} {y : Addr} {l : List C2} (h : CellsAt w (some y) l) : ∀ j v, (flatC l)[j]? = some v → w.cell? (y.add j) = some v := by
  intro j v hj
  have hjl : j < l.length * 2 := by rw [← flatC_len]; exact (List.getElem?_eq_some_iff.1 hj).1
  obtain ⟨x, hx⟩ : ∃ x, l[j / 2]? = some x := ⟨_, List.getElem?_eq_getElem (by omega)⟩
  obtain ⟨y', hy, c1, c2⟩ := h (j / 2) x hx
  obtain rfl := Option.some.inj hy
  have hg := flatC_get l (j / 2) x (j % 2) hx (by omega)
  rw [show j / 2 * 2 + j % 2 = j by omega, hj] at hg
  rcases (show j % 2 = 0 ∨ j % 2 = 1 by omega) with h0 | h0
  · rw [h0] at hg
    rw [show j = j / 2 * 2 by omega, c1]
    exact hg.symm
  · rw [h0] at hg
    rw [add_more _ _ _ (by omega)] at c2
    rw [show j = j / 2 * 2 + 1 by omega, c2]
    exact hg.symm
theorem flatC_one (l : List C2) : ∀ v ∈ flatC l, v.oneCell' = true := by
  intro v hv
  obtain ⟨x, _, hx⟩ := List.mem_flatMap.1 hv
  simp [celL] at hx
  rcases hx with rfl | rfl <;> rfl
def CCPost (l : List C2) (w : World) (e : Ending) (w' : World) : Prop := ∃ V, e = .returned V ∧ w'.ownsRow w.heap.size 38 2 V l.length (flatC l) ∧ Below w.heap.size w w'
set_option maxRecDepth 4000 in
set_option maxHeartbeats 800000 in
theorem ccells_any (A : Option Addr) (cap : Nat) (l : List C2) (w : World) (hx : CellsAt w A l) (hnil : A = none → cap = 0) (hlc : l.length ≤ cap) (hl : l.length ≤ 1099511627776) :
    Calls Tryd.prog 50 #[.slice A l.length cap] w (CCPost l w) := by
  obtain ⟨i0, hi, hz0, hz1, hz2⟩ := info_parts infoCell
  cases A with
  | none =>
    obtain rfl := hnil rfl
    obtain rfl : l = [] := List.eq_nil_of_length_eq_zero (by omega)
    have he : ∀ W, (binOp .eql 23 (.slice none 0 0) (.slice none 0 0)).run Tryd.prog W = .ok (.bool true) W := fun W => Lib.run_eql_slice_nil W _ _ none 0 0 0 0 Tryd.underlying23
    clear hx hnil hl hi
    go_enter Tryd.func50, Tryd.ntmps50
    go_wp2
    go_ret
    exact ⟨_, rfl, World.ownsRow_nil _ _ _ _, Below.refl _ _⟩
  | some a =>
    have hb0 : Below w.heap.size w (w.alloc (.cells #[] 38)) := (Below.refl _ _).alloc (Nat.le_refl _) _
    have HX := Lib.hid (cells_flat (hx.kept hb0))
    have HB := Lib.hid hb0
    have HO : Hid ((w.alloc (.cells #[] 38)).ownsRow w.heap.size 38 2 (.slice (some ⟨w.heap.size, 0, none⟩) 0 0) 0 []) := World.ownsRow_lit w #[] 0 (Nat.le_refl _) (Nat.zero_le _) rfl
    have HFL := Lib.hid (flatC_len l)
    have HON := Lib.hid (flatC_one l)
    obtain ⟨LL, hLL⟩ : ∃ LL, l.length = LL := ⟨_, rfl⟩
    have HLL := Lib.hid hLL
    rw [hLL] at hl hlc HFL
    rw [hLL]
    clear hx hnil hb0 hLL
    obtain ⟨ab, ao, asp⟩ := a
    have he : ∀ W, (binOp .eql 23 (.slice (some ⟨ab, ao, asp⟩) LL cap) (.slice none 0 0)).run Tryd.prog W = .ok (.bool false) W := fun W => Lib.run_eql_slice_nil W _ _ (some ⟨ab, ao, asp⟩) LL cap 0 0 Tryd.underlying23
    go_enter Tryd.func50, Tryd.ntmps50
    go_wp2_with (at_builtin; refine wpList_append_own _ rfl _ _ 23 rfl w.heap.size 38 i0 (.agg #[.int .u32 0, .bool false]) 2 8 Tryd.underlying23 hi hz0 hz1 hz2 rfl (by decide) _ 0 [] rfl HO.out ⟨ab, ao, asp⟩ LL cap (flatC l) rfl ?c1 ?c2 ?c3 ?c4 ?c5 ?c6 ?_)
    case c1 => exact HFL.out
    case c2 => exact HX.out
    case c3 => exact HON.out
    case c4 => unfold maxLen; omega
    case c5 => omega
    case c6 => simp
    intro v' w2 ho2 hg2 _
    have hb2 := HB.out.grown hg2 (by simp) (fun j hj => by first | (simp [Value.ownBlock] at hj; omega) | exact (ho2.lt j hj).1)
    clear hg2
    go_wp2
    go_ret
    exact ⟨v', rfl, by rw [HLL.out]; simpa using ho2, hb2⟩
end Go.Proofs.YtpdoihndpnpifaaDoor.Prt

namespace Go.Proofs.YtpdoihndpnpifaaDoor.Prt

open Go.RowKit Go.PlainAid Go.Proofs.YtpdoihndpnpifaaDoor.Oct Go.Proofs.YtpdoihndpnpifaaDoor.Flt Go.Proofs.YtpdoihndpnpifaaDoor.Rdr Go.Proofs.YtpdoihndpnpifaaDoor.Nam

open Go.Proofs.YtpdoihndpnpifaaDoor.Act (list_of row_beside row_base)

set_option linter.unusedVariables false

set_option linter.unusedSimpArgs false

/-- A partition whose cells' slice is this value. -/
def QAt (w : World) (q : PT × Value) : Prop := ∃ B c, q.2 = .slice B q.1.cs.length c ∧ CellsAt w B q.1.cs ∧ (B = none → c = 0) ∧ q.1.cs.length ≤ c ∧ c ≤ maxLen
theorem QAt.kept {w w' : World} {q : PT × Value} (h : QAt w q) (b : Below w.heap.size w w') : QAt w' q := by
  obtain ⟨B, c, h1, h2, h3⟩ := h
  exact ⟨B, c, h1, h2.kept b, h3⟩
theorem flatQ_len (L : List (PT × Value)) : (flatQ L).length = L.length * 4 := by
  induction L with
  | nil => rfl
  | cons x l ih => simp [flatQ] at ih ⊢; omega
theorem parts_flat {w : World} {y : Addr} {l : List PT} (h : PartsAt w (some y) l) : ∃ L : List (PT × Value), L.map Prod.fst = l ∧ (∀ q ∈ L, QAt w q) ∧ ∀ j v, (flatQ L)[j]? = some v → w.cell? (y.add j) = some v := by
  obtain ⟨L, hL, hp⟩ := list_of (fun i (q : PT × Value) => l[i]? = some q.1 ∧ QAt w q ∧ w.cell? (y.add (i * 4)) = some (.int .i64 q.1.id) ∧ w.cell? (y.add (i * 4 + 1)) = some (.string q.1.nm) ∧ w.cell? (y.add (i * 4 + 2)) = some (.bool q.1.may) ∧ w.cell? (y.add (i * 4 + 3)) = some q.2) l.length (by
    intro i hi
    have hx : l[i]? = some l[i] := List.getElem?_eq_getElem hi
    obtain ⟨y', B, c, hy, c1, c2, c3, c4, h5⟩ := h i _ hx
    obtain rfl := Option.some.inj hy
    rw [add_more _ _ _ (by omega)] at c2 c3 c4
    exact ⟨(l[i], .slice B l[i].cs.length c), hx, ⟨B, c, rfl, h5⟩, c1, c2, c3, c4⟩)
  refine ⟨L, ?_, fun q hq => ?_, fun j v hj => ?_⟩
  · apply List.ext_getElem?
    intro i
    rw [List.getElem?_map]
    rcases Nat.lt_or_ge i L.length with hi | hi
    · have hx : L[i]? = some L[i] := List.getElem?_eq_getElem hi
      rw [hx, (hp i _ hx).1]; rfl
    · rw [List.getElem?_eq_none hi, List.getElem?_eq_none (by omega)]; rfl
  · obtain ⟨i, hi, rfl⟩ := List.mem_iff_getElem.1 hq
    exact (hp i _ (List.getElem?_eq_getElem hi)).2.1
  · have hjl : j < L.length * 4 := by rw [← flatQ_len]; exact (List.getElem?_eq_some_iff.1 hj).1
    obtain ⟨q, hq⟩ : ∃ q, L[j / 4]? = some q := ⟨_, List.getElem?_eq_getElem (by omega)⟩
    obtain ⟨_, _, c1, c2, c3, c4⟩ := hp _ q hq
    have hg := flatQ_get L (j / 4) q (j % 4) hq (by omega)
    rw [show j / 4 * 4 + j % 4 = j by omega, hj] at hg
    rcases (show j % 4 = 0 ∨ j % 4 = 1 ∨ j % 4 = 2 ∨ j % 4 = 3 by omega) with h0 | h0 | h0 | h0
    · rw [h0] at hg; rw [show j = j / 4 * 4 by omega, c1]; exact hg.symm
    · rw [h0] at hg; rw [show j = j / 4 * 4 + 1 by omega, c2]; exact hg.symm
    · rw [h0] at hg; rw [show j = j / 4 * 4 + 2 by omega, c3]; exact hg.symm
    · rw [h0] at hg; rw [show j = j / 4 * 4 + 3 by omega, c4]; exact hg.symm
theorem flatQ_one {w : World} (L : List (PT × Value)) (h : ∀ q ∈ L, QAt w q) : ∀ v ∈ flatQ L, v.oneCell' = true := by
  intro v hv
  obtain ⟨x, hm, hx⟩ := List.mem_flatMap.1 hv
  obtain ⟨B, c, e, _⟩ := h x hm
  rw [e] at hx
  simp at hx
  rcases hx with rfl | rfl | rfl | rfl <;> rfl
def CPPost (l : List PT) (w : World) (e : Ending) (w' : World) : Prop := ∃ V L, e = .returned V ∧ L.map Prod.fst = l ∧ (∀ q ∈ L, QAt w q) ∧ w'.ownsRow w.heap.size 25 4 V L.length (flatQ L) ∧ Below w.heap.size w w'
set_option maxRecDepth 4000 in
set_option maxHeartbeats 800000 in
theorem cparts_any (A : Option Addr) (cap : Nat) (l : List PT) (w : World) (hx : PartsAt w A l) (hnil : A = none → cap = 0) (hlc : l.length ≤ cap) (hl : l.length ≤ 1099511627776) :
    Calls Tryd.prog 49 #[.slice A l.length cap] w (CPPost l w) := by
  obtain ⟨i0, hi, hz0, hz1, hz2⟩ := info_parts infoPart
  cases A with
  | none =>
    obtain rfl := hnil rfl
    obtain rfl : l = [] := List.eq_nil_of_length_eq_zero (by omega)
    have he : ∀ W, (binOp .eql 22 (.slice none 0 0) (.slice none 0 0)).run Tryd.prog W = .ok (.bool true) W := fun W => Lib.run_eql_slice_nil W _ _ none 0 0 0 0 Tryd.underlying22
    clear hx hnil hl hi
    go_enter Tryd.func49, Tryd.ntmps49
    go_wp2
    go_ret
    exact ⟨_, [], rfl, rfl, fun q hq => (by cases hq), World.ownsRow_nil _ _ _ _, Below.refl _ _⟩
  | some a =>
    have hb0 : Below w.heap.size w (w.alloc (.cells #[] 25)) := (Below.refl _ _).alloc (Nat.le_refl _) _
    obtain ⟨L, hLm, hLq, hLf⟩ := parts_flat hx
    have HX : Hid (∀ j v, (flatQ L)[j]? = some v → (w.alloc (.cells #[] 25)).cell? (a.add j) = some v) := fun j v hj => by
      have := hLf j v hj
      exact (hb0.cell (Go.block_lt_of_cell this)).trans this
    have HB := Lib.hid hb0
    have HO : Hid ((w.alloc (.cells #[] 25)).ownsRow w.heap.size 25 4 (.slice (some ⟨w.heap.size, 0, none⟩) 0 0) 0 []) := World.ownsRow_lit w #[] 0 (Nat.le_refl _) (Nat.zero_le _) rfl
    have HFL := Lib.hid (flatQ_len L)
    have HON := Lib.hid (flatQ_one L hLq)
    have hLn : L.length = l.length := by rw [← hLm, List.length_map]
    have HLM := Lib.hid hLm
    have HLQ := Lib.hid hLq
    obtain ⟨LL, hLL⟩ : ∃ LL, l.length = LL := ⟨_, rfl⟩
    rw [hLL] at hLn hl hlc
    have HLN := Lib.hid hLn
    rw [hLn] at HFL
    rw [hLL]
    clear hx hnil hb0 hLL hLm hLq hLf hLn
    obtain ⟨ab, ao, asp⟩ := a
    have he : ∀ W, (binOp .eql 22 (.slice (some ⟨ab, ao, asp⟩) LL cap) (.slice none 0 0)).run Tryd.prog W = .ok (.bool false) W := fun W => Lib.run_eql_slice_nil W _ _ (some ⟨ab, ao, asp⟩) LL cap 0 0 Tryd.underlying22
    go_enter Tryd.func49, Tryd.ntmps49
    go_wp2_with (at_builtin; refine wpList_append_own _ rfl _ _ 22 rfl w.heap.size 25 i0 (.agg #[.int .i64 0, .string ⟨#[]⟩, .bool false, .slice none 0 0]) 4 56 Tryd.underlying22 hi hz0 hz1 hz2 rfl (by decide) _ 0 [] rfl HO.out ⟨ab, ao, asp⟩ LL cap (flatQ L) rfl ?c1 ?c2 ?c3 ?c4 ?c5 ?c6 ?_)
    case c1 => exact HFL.out
    case c2 => exact HX.out
    case c3 => exact HON.out
    case c4 => unfold maxLen; omega
    case c5 => omega
    case c6 => simp
    intro v' w2 ho2 hg2 _
    have hb2 := HB.out.grown hg2 (by simp) (fun j hj => by first | (simp [Value.ownBlock] at hj; omega) | exact (ho2.lt j hj).1)
    clear hg2
    go_wp2
    go_ret
    exact ⟨v', L, rfl, HLM.out, HLQ.out, by rw [HLN.out]; simpa using ho2, hb2⟩
theorem flatQ_set : ∀ (L : List (PT × Value)) (k : Nat) (q : PT × Value) (u : Value), L[k]? = some q → (flatQ L).set (k * 4 + 3) u = flatQ (L.set k (q.1, u))
  | [], k, q, u, h => by simp at h
  | y :: l, 0, q, u, h => by
    obtain rfl : y = q := by simpa using h
    simp [flatQ]
  | y :: l, k + 1, q, u, h => by
    have ih := flatQ_set l k q u (by simpa using h)
    have e : ∀ L : List (PT × Value), flatQ (y :: L) = [.int .i64 y.1.id, .string y.1.nm, .bool y.1.may, y.2] ++ flatQ L := fun _ => rfl
    rw [List.set_cons_succ, e, e, ← ih, List.set_append_right _ _ (by simp; omega)]
    congr 2
    simp; omega
/-- Within Clone: so many rows of cells are the call's own, and of blocks apart. -/
structure DP (k : Nat) (l : List PT) (L : List (PT × Value)) (V : Value) (w wr : World) : Prop where
  own : wr.ownsRow w.heap.size 25 4 V L.length (flatQ L)
  fst : L.map Prod.fst = l
  sub : ∀ (i : Nat) (q : PT × Value), i < k → L[i]? = some q → wr.ownsRow w.heap.size 38 2 q.2 q.1.cs.length (flatC q.1.cs)
  rest : ∀ (i : Nat) (q : PT × Value), k ≤ i → L[i]? = some q → QAt w q
  apart : ∀ (i j : Nat) (q q' : PT × Value) (b : Nat), i < k → j < k → i ≠ j → L[i]? = some q → L[j]? = some q' → q.2.ownBlock = some b → q'.2.ownBlock ≠ some b
  below : Below w.heap.size w wr
theorem DP.step {k : Nat} {l : List PT} {L : List (PT × Value)} {G n c : Nat} {w wr w2 : World} {q : PT × Value} {u : Value} (f : DP k l L (.slice (some ⟨G, 0, none⟩) n c) w wr) (hn : n = L.length) (hq : L[k]? = some q) (b : Below wr.heap.size wr w2)
    (hu : w2.ownsRow wr.heap.size 38 2 u q.1.cs.length (flatC q.1.cs)) : DP (k + 1) l (L.set k (q.1, u)) (.slice (some ⟨G, 0, none⟩) n c) w (w2.setCell ⟨G, k * 4 + 3, none⟩ u) := by
  subst hn
  have hGl := f.own.lt G rfl
  have j1 : Just w2.heap.size wr w2 := Just.of_below b
  have o2 : w2.ownsRow w.heap.size 25 4 (.slice (some ⟨G, 0, none⟩) L.length c) L.length (flatQ L) := row_beside f.own (Just.of_below (g := w2.heap.size) b) fun k hk => by
    have h1 := (f.own.lt k hk).2
    have h2 := b.size
    omega
  have hkl : k < L.length := (List.getElem?_eq_some_iff.1 hq).1
  have cellne : ∀ {B : Nat} {v : Value} {m : Nat} {ys : List Value}, w2.ownsRow B 38 2 v m ys → ∀ j, v.ownBlock = some j → j ≠ G := fun {B v m ys} h j hj e => by
    subst e
    obtain ⟨c1, e1⟩ := own_block h hj
    obtain ⟨c2, e2⟩ := own_block o2 (rfl : (Value.slice (some ⟨j, 0, none⟩) L.length c).ownBlock = some j)
    rw [e1] at e2
    simp only [Option.some.injEq, Obj.cells.injEq] at e2
    exact absurd e2.2.1 (by decide)
  have keep : ∀ {v : Value} {m : Nat} {ys : List Value}, w2.ownsRow w.heap.size 38 2 v m ys → (w2.setCell ⟨G, k * 4 + 3, none⟩ u).ownsRow w.heap.size 38 2 v m ys := fun {v m ys} h => row_beside h (just_cell w2 G (k * 4 + 3) u) (cellne h)
  have keep1 : ∀ {v : Value} {m : Nat} {ys : List Value}, wr.ownsRow w.heap.size 38 2 v m ys → w2.ownsRow w.heap.size 38 2 v m ys := fun {v m ys} h => row_beside h (Just.of_below (g := w2.heap.size) b) fun j hj => by
    have h1 := (h.lt j hj).2
    have h2 := b.size
    omega
  have hu0 := row_base hu f.below.size
  have get : ∀ i p, (L.set k (q.1, u))[i]? = some p → (i = k ∧ p = (q.1, u)) ∨ (i ≠ k ∧ L[i]? = some p) := fun i p h => by
    by_cases hik : i = k
    · subst hik
      rw [List.getElem?_set_self hkl] at h
      exact .inl ⟨rfl, (Option.some.inj h).symm⟩
    · rw [List.getElem?_set_ne (fun e => hik e.symm)] at h
      exact .inr ⟨hik, h⟩
  refine ⟨?_, ?_, fun i p hi hp => ?_, fun i p hi hp => ?_, fun i j p p' b' hi hj hij hp hp' hb' => ?_, ?_⟩
  · rw [List.length_set, ← flatQ_set L k q u hq]
    exact (o2.stored (k * 4 + 3) u).1
  · rw [List.map_set]
    apply List.ext_getElem?
    intro i
    by_cases hik : i = k
    · subst hik
      rw [List.getElem?_set_self (by rw [List.length_map]; exact hkl), ← f.fst, List.getElem?_map, hq]; rfl
    · rw [List.getElem?_set_ne (fun e => hik e.symm), f.fst]
  · rcases get i p hp with ⟨rfl, rfl⟩ | ⟨hik, h⟩
    · exact keep hu0
    · exact keep (keep1 (f.sub i p (by omega) h))
  · rcases get i p hp with ⟨rfl, rfl⟩ | ⟨hik, h⟩
    · omega
    · exact f.rest i p (by omega) h
  · rcases get i p hp with ⟨rfl, rfl⟩ | ⟨hik, h⟩
    · rcases get j p' hp' with ⟨rfl, rfl⟩ | ⟨hjk, h'⟩
      · omega
      · intro e
        have h1 := (hu.lt b' hb').1
        have h2 := ((f.sub j p' (by omega) h').lt b' e).2
        omega
    · rcases get j p' hp' with ⟨rfl, rfl⟩ | ⟨hjk, h'⟩
      · intro e
        have h1 := (hu.lt b' e).1
        have h2 := ((f.sub i p (by omega) h).lt b' hb').2
        omega
      · exact f.apart i j p p' b' (by omega) (by omega) hij h h' hb'
  · exact (f.below.trans (b.mono f.below.size)).setCell hGl.1 u
def DPost (l : List PT) (w : World) (e : Ending) (w' : World) : Prop := ∃ V L, e = .returned V ∧ DP L.length l L V w w'
def DRel (l : List PT) (V : Value) (w : World) (i : Value) (wr : World) : Prop := ∃ (k : Nat) (L : List (PT × Value)), k ≤ l.length ∧ i = .int .i64 k ∧ DP k l L V w wr
set_option maxRecDepth 8000 in
set_option maxHeartbeats 3200000 in
theorem pclone_any (A : Option Addr) (cap : Nat) (l : List PT) (w : World) (hx : PartsAt w A l) (hnil : A = none → cap = 0) (hlc : l.length ≤ cap) (hl : l.length ≤ 1000) (hcl : ∀ x ∈ l, x.cs.length ≤ 1000) :
    Calls Tryd.prog 16 #[.slice A l.length cap] w (DPost l w) := by
  have HC := Lib.hid (cparts_any A cap l w hx hnil hlc (by omega))
  have HCL := Lib.hid hcl
  obtain ⟨n, hn⟩ : ∃ n, l.length = n := ⟨_, rfl⟩
  have HN := Lib.hid hn
  rw [hn] at HC hl hlc
  rw [hn]
  clear hx hnil hcl hn
  go_enter Tryd.func16, Tryd.ntmps16
  go_wp2_with fail
  refine HC.out.mono ?_
  rintro e w1 ⟨V, L0, rfl, hm, hq, ho, hb⟩
  have hL0 : L0.length = n := by rw [← HN.out, ← hm, List.length_map]
  obtain ⟨A2, c, rfl⟩ : ∃ A2 c, V = .slice A2 n c := by
    rcases ho.2 with ⟨rfl, h0⟩ | ⟨g', c', cur, rfl, _⟩
    · exact ⟨none, 0, by rw [← hL0, h0]⟩
    · exact ⟨_, _, by rw [hL0]⟩
  have hd : DP 0 l L0 (.slice A2 n c) w w1 := ⟨ho, hm, fun i q hi => by omega, fun i q _ h => hq q (List.mem_of_getElem? h), fun i j q q' b hi => by omega, hb⟩
  have HD := Lib.hid hd
  clear ho hm hq hb hL0 hd HC
  go_wp2
  go_loopw [10] (fun i wr => DRel l (.slice A2 n c) w i wr) (fun i _ => n - (intOf i).toNat)
  case atStart => exact ⟨0, L0, Nat.zero_le _, rfl, HD.out⟩
  case round =>
    obtain ⟨k, L, hk, rfl, hf⟩ := hrel
    have HF := Lib.hid hf
    have hka : k ≤ n := by rw [← HN.out]; exact hk
    have hLn : L.length = n := by rw [← HN.out, ← hf.fst, List.length_map]
    have HLN := Lib.hid hLn
    clear hf hk HD
    by_cases hlt : k < n
    · obtain ⟨q, hq⟩ : ∃ q, L[k]? = some q := ⟨_, List.getElem?_eq_getElem (by omega)⟩
      have HQ := Lib.hid hq
      obtain ⟨G, rfl⟩ : ∃ G, A2 = some ⟨G, 0, none⟩ := by
        rcases HF.out.own.2 with ⟨_, h0⟩ | ⟨g', c', cur, h, _⟩
        · omega
        · cases h; exact ⟨_, rfl⟩
      have ho := HF.out.own
      rw [hLn] at ho
      have g0 := flatQ_get L k q 0 hq (by omega)
      have g1 := flatQ_get L k q 1 hq (by omega)
      have g2 := flatQ_get L k q 2 hq (by omega)
      have g3 := flatQ_get L k q 3 hq (by omega)
      obtain ⟨B, bc, hqv, hca, hcn, hcc, hcm⟩ := HF.out.rest k q (Nat.le_refl _) hq
      have e0 := (ho.cellAt (k * 4) (by omega)).trans g0
      have e1 := (ho.cellAt (k * 4 + 1) (by omega)).trans g1
      have e2 := (ho.cellAt (k * 4 + 2) (by omega)).trans g2
      have e3 := (ho.cellAt (k * 4 + 3) (by omega)).trans g3
      simp only [List.getElem?_cons_zero, List.getElem?_cons_succ] at e0 e1 e2 e3
      rw [hqv] at e3
      have hml : q.1 ∈ l := by rw [← HF.out.fst]; exact List.mem_map.2 ⟨q, List.mem_of_getElem? hq, rfl⟩
      have hbo : ∀ o, Below wr.heap.size wr (wr.alloc o) := fun o => (Below.refl _ _).alloc (Nat.le_refl _) o
      have HCC : Hid (∀ o, Calls Tryd.prog 50 #[.slice B q.1.cs.length bc] (wr.alloc o) (CCPost q.1.cs (wr.alloc o))) := fun o => ccells_any B bc q.1.cs _ ((hca.kept HF.out.below).kept (hbo o)) hcn hcc (by have := HCL.out _ hml; omega)
      have HBO := Lib.hid hbo
      obtain ⟨ax, hax⟩ : ∃ ax : Addr, (⟨G, 0, none⟩ : Addr) = ax := ⟨_, rfl⟩
      have HAX := Lib.hid hax
      have had : ∀ j, ax.add j = ⟨G, j, none⟩ := fun j => by rw [← hax]; exact add_at G j
      have c1 : wr.cell? (ax.add (k * 4)) = some (.int .i64 q.1.id) := by rw [had]; exact e0
      have c2 : wr.cell? ⟨(ax.add (k * 4)).block, (ax.add (k * 4)).off + 1, none⟩ = some (.string q.1.nm) := by rw [had]; exact e1
      have c3 : wr.cell? ⟨(ax.add (k * 4)).block, (ax.add (k * 4)).off + 2, none⟩ = some (.bool q.1.may) := by rw [had]; exact e2
      have c4 : wr.cell? ⟨(ax.add (k * 4)).block, (ax.add (k * 4)).off + 3, none⟩ = some (.slice B q.1.cs.length bc) := by rw [had]; exact e3
      have HAD := Lib.hid had
      rw [hax]
      obtain ⟨LC, hLC⟩ : ∃ LC, q.1.cs.length = LC := ⟨_, rfl⟩
      have HLC := Lib.hid hLC
      rw [hLC] at c4 HCC
      have hki : (0 : Int) ≤ k := by omega
      have hkb : (k : Int) < n := by omega
      clear hq ho g0 g1 g2 g3 e0 e1 e2 e3 hqv hca hcn hcc hcm hml hbo hax had hLC hLn
      go_wp2_with fail
      refine (HCC.out _).mono ?_
      rintro e w2 ⟨V2, rfl, ho2, hb2⟩
      have hbw := (HBO.out _).trans (hb2.mono (HBO.out _).size)
      have HS := Lib.hid (HF.out.step HLN.out.symm HQ.out hbw (row_base ho2 (HBO.out _).size))
      have HO2 : Hid (∃ A3 c3, V2 = .slice A3 LC c3) := by
        rcases ho2.2 with ⟨rfl, h0⟩ | ⟨g', c', cur, rfl, _⟩
        · exact ⟨none, 0, by rw [← HLC.out, h0]⟩
        · exact ⟨_, _, by rw [HLC.out]⟩
      obtain ⟨A3, cc3, rfl⟩ := HO2.out
      have c5 := (hbw.cell (Go.block_lt_of_cell c4)).trans c4
      have z5 : w2.frozen? ⟨(ax.add (k * 4)).block, (ax.add (k * 4)).off + 3, none⟩ = false := by
        have ho := HF.out.own
        rw [HLN.out] at ho
        have ho' := row_beside ho (Just.of_below (g := w2.heap.size) hbw) (fun j hj => by
          have h1 := (ho.lt j hj).2
          have h2 := hbw.size
          omega)
        rw [HAD.out]
        exact ho'.frozenAt (k * 4 + 3)
      have HS2 : Hid (DP (k + 1) l (L.set k (q.1, .slice A3 LC cc3)) (.slice (some ax) n c) w (w2.setCell ⟨(ax.add (k * 4)).block, (ax.add (k * 4)).off + 3, none⟩ (.slice A3 LC cc3))) := by
        show DP _ _ _ _ _ _
        rw [HAD.out, ← HAX.out]
        exact HS.out
      clear hb2 ho2 hbw c1 c2 c3 c4 HS HCC
      go_wp2
      go_roundw
      case rel => exact ⟨k + 1, _, by rw [HN.out]; omega, by go_num, by first | exact HS2.out | (rw [HAX.out]; exact HS2.out)⟩
      case measure => simp [intOf]; omega
    · obtain rfl : k = n := by omega
      go_wp2
      go_ret
      exact ⟨_, L, rfl, by rw [HLN.out]; exact HF.out⟩
end Go.Proofs.YtpdoihndpnpifaaDoor.Prt
