
/- What package scheds' Same and Find say, and what the clones of windows, of needs and of schedules are. Condition: none of their own. What package scheds' Clone tells: rows of its own, windows and needs too. Condition: at most 1,000 schedules, windows and needs. Whether two rows of schedules are one, as the document tells it. Condition: none of its own. -/

import Derived.Test.YtbcjkongcnpdlaaDoorScdO

import Derived.Test.YtbcjkongcnpdlaaDoorPrtP

import Derived.BigQuiet

import Derived.BigRegion

namespace Go.Proofs.YtbcjkongcnpdlaaDoor.Scd

open Go.RowKit Go.PlainAid Go.Proofs.YtbcjkongcnpdlaaDoor.Oct Go.Proofs.YtbcjkongcnpdlaaDoor.Flt Go.Proofs.YtbcjkongcnpdlaaDoor.Rdr Go.Proofs.YtbcjkongcnpdlaaDoor.Act

open Go.Proofs.YtbcjkongcnpdlaaDoor.Prt (allEq allEq_no allEq_yes allEq_len below_drewN add_at add_more)

set_option linter.unusedVariables false

set_option linter.unusedSimpArgs false

def eqA (x y : A3) : Bool := (x.s == y.s) && (x.p == y.p) && (x.a == y.a)
theorem eq3W (a b c d e f : Int) (w : World) : (Op.equalIn 10000 59 (.agg #[.int .i64 a, .int .i64 b, .int .i64 c]) (.agg #[.int .i64 d, .int .i64 e, .int .i64 f])).run Tryd.prog w = .ok ((a == d) && (b == e) && (c == f)) w := by
  have hS : Tryd.prog.underlying 59 = some (.struct (Tryd.prog.fieldsOf 59)) := by kernel_rfl
  rw [show (10000 : Nat) = 9999 + 1 from rfl, run_equalIn_agg w 9999 59 _ _ hS (by kernel_rfl)]
  simp only [Program.fieldsOf, Tryd.underlying59]
  go_simp
  by_cases h1 : a = d <;> by_cases h2 : b = e <;> by_cases h3 : c = f <;> simp [h1, h2, h3]
set_option maxRecDepth 4000 in
set_option maxHeartbeats 1600000 in
theorem eqrW_any (A B : Option Addr) (ca cb : Nat) (l m : List A3) (w : World) (h1 : ActsAt w A l) (h2 : ActsAt w B m) (hl : l.length ≤ 1000) (hm : m.length ≤ maxLen) :
    Calls Tryd.prog 40 #[.slice A l.length ca, .slice B m.length cb] w fun e w' => e = .returned (.bool (allEq eqA l m)) ∧ ∃ n, w' = w.drewN n := by
  unfold maxLen at hm
  obtain ⟨a, ha⟩ : ∃ a, l.length = a := ⟨_, rfl⟩
  obtain ⟨b, hb⟩ : ∃ b, m.length = b := ⟨_, rfl⟩
  have HA := Lib.hid ha
  have HB := Lib.hid hb
  rw [ha] at hl
  rw [hb] at hm
  rw [ha, hb]
  by_cases hab : a = b
  · have HAB := Lib.hid hab
    subst hab
    have H1 := Lib.hid h1
    have H2 := Lib.hid h2
    clear h1 h2 ha hb
    have tne : ((a : Int) != (a : Int)) = false := by simp
    go_enter Tryd.func40, Tryd.ntmps40
    go_wp2
    go_loopw [13] (fun i wr => ∃ k n : Nat, k ≤ a ∧ i = .int .i64 k ∧ wr = w.drewN n ∧ ∀ (j : Nat) x y, j < k → l[j]? = some x → m[j]? = some y → eqA x y = true) (fun i _ => a - (intOf i).toNat)
    case atStart => exact ⟨0, 0, Nat.zero_le _, rfl, rfl, fun j x y h => absurd h (by omega)⟩
    case round =>
      obtain ⟨k, n, hk, rfl, hw, hall⟩ := hrel
      have HALL := Lib.hid hall
      have HW := Lib.hid hw
      by_cases hlt : k < a
      · obtain ⟨x, hx⟩ : ∃ x, l[k]? = some x := ⟨_, List.getElem?_eq_getElem (by rw [HA.out]; exact hlt)⟩
        obtain ⟨y, hy⟩ : ∃ y, m[k]? = some y := ⟨_, List.getElem?_eq_getElem (by rw [HB.out]; exact hlt)⟩
        obtain ⟨ax, rfl, c1, c2, c5⟩ := H1.out k x hx
        obtain ⟨ay, rfl, c3, c4, c6⟩ := H2.out k y hy
        have c1' : wr.cell? (ax.add (k * 3)) = some (.int .i64 x.s) := by rw [hw]; exact c1
        have c2' : wr.cell? ⟨(ax.add (k * 3)).block, (ax.add (k * 3)).off + 1, none⟩ = some (.int .i64 x.p) := by rw [hw]; exact c2
        have c5' : wr.cell? ⟨(ax.add (k * 3)).block, (ax.add (k * 3)).off + 2, none⟩ = some (.int .i64 x.a) := by rw [hw]; exact c5
        have c3' : wr.cell? (ay.add (k * 3)) = some (.int .i64 y.s) := by rw [hw]; exact c3
        have c4' : wr.cell? ⟨(ay.add (k * 3)).block, (ay.add (k * 3)).off + 1, none⟩ = some (.int .i64 y.p) := by rw [hw]; exact c4
        have c6' : wr.cell? ⟨(ay.add (k * 3)).block, (ay.add (k * 3)).off + 2, none⟩ = some (.int .i64 y.a) := by rw [hw]; exact c6
        have heq : ∀ wx : World, (Op.equalIn 10000 59 (.agg #[.int .i64 x.s, .int .i64 x.p, .int .i64 x.a]) (.agg #[.int .i64 y.s, .int .i64 y.p, .int .i64 y.a])).run Tryd.prog wx = .ok (eqA x y) wx := fun wx => eq3W x.s x.p x.a y.s y.p y.a wx
        have HX := Lib.hid hx
        have HY := Lib.hid hy
        have hki : (0 : Int) ≤ k := by omega
        have hka : (k : Int) < a := by omega
        clear hall hw hx hy c1 c2 c3 c4 c5 c6 H1 H2
        cases hq : eqA x y with
        | true =>
          rw [hq] at heq
          go_wp2
          go_quiet (fail)
          go_wp2
          go_roundw
          case rel => exact ⟨k + 1, n + nq, by omega, by go_num, by rw [HW.out, World.drewN_drewN], fun j x' y' hj h3 h4 => by
            rcases (show j < k ∨ j = k by omega) with h | rfl
            · exact HALL.out j x' y' h h3 h4
            · obtain rfl : x = x' := Option.some.inj (HX.out.symm.trans h3)
              obtain rfl : y = y' := Option.some.inj (HY.out.symm.trans h4)
              first | exact hq | trivial⟩
          case measure => simp [intOf]; omega
        | false =>
          rw [hq] at heq
          have HQ := Lib.hid hq
          clear hq
          go_wp2
          go_quiet (fail)
          go_wp2
          go_ret
          exact ⟨by show Ending.returned (.bool false) = _; rw [allEq_no eqA l m k x y HX.out HY.out HQ.out], n + nq, by rw [HW.out, World.drewN_drewN]⟩
      · obtain rfl : k = a := by omega
        clear hall hw
        go_wp2
        go_ret
        exact ⟨by show Ending.returned (.bool true) = _; rw [allEq_yes eqA l m (by rw [HA.out, HB.out]) (fun i x y h3 h4 => HALL.out i x y (by
          rcases Nat.lt_or_ge i l.length with hh | hh
          · rw [HA.out] at hh; exact hh
          · rw [List.getElem?_eq_none hh] at h3; cases h3) h3 h4)], n, HW.out⟩
  · have tne : ((a : Int) != (b : Int)) = true := by simp; omega
    have HE : Hid (allEq eqA l m = false) := allEq_len eqA l m (by rw [ha, hb]; exact hab)
    clear h1 h2 ha hb hab
    go_enter Tryd.func40, Tryd.ntmps40
    go_wp2
    go_ret
    exact ⟨by show Ending.returned (.bool false) = _; rw [HE.out], 0, rfl⟩
theorem eq3N (a b c d e f : Int) (w : World) : (Op.equalIn 10000 68 (.agg #[.int .i64 a, .int .i64 b, .int .i64 c]) (.agg #[.int .i64 d, .int .i64 e, .int .i64 f])).run Tryd.prog w = .ok ((a == d) && (b == e) && (c == f)) w := by
  have hS : Tryd.prog.underlying 68 = some (.struct (Tryd.prog.fieldsOf 68)) := by kernel_rfl
  rw [show (10000 : Nat) = 9999 + 1 from rfl, run_equalIn_agg w 9999 68 _ _ hS (by kernel_rfl)]
  simp only [Program.fieldsOf, Tryd.underlying68]
  go_simp
  by_cases h1 : a = d <;> by_cases h2 : b = e <;> by_cases h3 : c = f <;> simp [h1, h2, h3]
set_option maxRecDepth 4000 in
set_option maxHeartbeats 1600000 in
theorem eqrN_any (A B : Option Addr) (ca cb : Nat) (l m : List A3) (w : World) (h1 : ActsAt w A l) (h2 : ActsAt w B m) (hl : l.length ≤ 1000) (hm : m.length ≤ maxLen) :
    Calls Tryd.prog 41 #[.slice A l.length ca, .slice B m.length cb] w fun e w' => e = .returned (.bool (allEq eqA l m)) ∧ ∃ n, w' = w.drewN n := by
  unfold maxLen at hm
  obtain ⟨a, ha⟩ : ∃ a, l.length = a := ⟨_, rfl⟩
  obtain ⟨b, hb⟩ : ∃ b, m.length = b := ⟨_, rfl⟩
  have HA := Lib.hid ha
  have HB := Lib.hid hb
  rw [ha] at hl
  rw [hb] at hm
  rw [ha, hb]
  by_cases hab : a = b
  · have HAB := Lib.hid hab
    subst hab
    have H1 := Lib.hid h1
    have H2 := Lib.hid h2
    clear h1 h2 ha hb
    have tne : ((a : Int) != (a : Int)) = false := by simp
    go_enter Tryd.func41, Tryd.ntmps41
    go_wp2
    go_loopw [13] (fun i wr => ∃ k n : Nat, k ≤ a ∧ i = .int .i64 k ∧ wr = w.drewN n ∧ ∀ (j : Nat) x y, j < k → l[j]? = some x → m[j]? = some y → eqA x y = true) (fun i _ => a - (intOf i).toNat)
    case atStart => exact ⟨0, 0, Nat.zero_le _, rfl, rfl, fun j x y h => absurd h (by omega)⟩
    case round =>
      obtain ⟨k, n, hk, rfl, hw, hall⟩ := hrel
      have HALL := Lib.hid hall
      have HW := Lib.hid hw
      by_cases hlt : k < a
      · obtain ⟨x, hx⟩ : ∃ x, l[k]? = some x := ⟨_, List.getElem?_eq_getElem (by rw [HA.out]; exact hlt)⟩
        obtain ⟨y, hy⟩ : ∃ y, m[k]? = some y := ⟨_, List.getElem?_eq_getElem (by rw [HB.out]; exact hlt)⟩
        obtain ⟨ax, rfl, c1, c2, c5⟩ := H1.out k x hx
        obtain ⟨ay, rfl, c3, c4, c6⟩ := H2.out k y hy
        have c1' : wr.cell? (ax.add (k * 3)) = some (.int .i64 x.s) := by rw [hw]; exact c1
        have c2' : wr.cell? ⟨(ax.add (k * 3)).block, (ax.add (k * 3)).off + 1, none⟩ = some (.int .i64 x.p) := by rw [hw]; exact c2
        have c5' : wr.cell? ⟨(ax.add (k * 3)).block, (ax.add (k * 3)).off + 2, none⟩ = some (.int .i64 x.a) := by rw [hw]; exact c5
        have c3' : wr.cell? (ay.add (k * 3)) = some (.int .i64 y.s) := by rw [hw]; exact c3
        have c4' : wr.cell? ⟨(ay.add (k * 3)).block, (ay.add (k * 3)).off + 1, none⟩ = some (.int .i64 y.p) := by rw [hw]; exact c4
        have c6' : wr.cell? ⟨(ay.add (k * 3)).block, (ay.add (k * 3)).off + 2, none⟩ = some (.int .i64 y.a) := by rw [hw]; exact c6
        have heq : ∀ wx : World, (Op.equalIn 10000 68 (.agg #[.int .i64 x.s, .int .i64 x.p, .int .i64 x.a]) (.agg #[.int .i64 y.s, .int .i64 y.p, .int .i64 y.a])).run Tryd.prog wx = .ok (eqA x y) wx := fun wx => eq3N x.s x.p x.a y.s y.p y.a wx
        have HX := Lib.hid hx
        have HY := Lib.hid hy
        have hki : (0 : Int) ≤ k := by omega
        have hka : (k : Int) < a := by omega
        clear hall hw hx hy c1 c2 c3 c4 c5 c6 H1 H2
        cases hq : eqA x y with
        | true =>
          rw [hq] at heq
          go_wp2
          go_quiet (fail)
          go_wp2
          go_roundw
          case rel => exact ⟨k + 1, n + nq, by omega, by go_num, by rw [HW.out, World.drewN_drewN], fun j x' y' hj h3 h4 => by
            rcases (show j < k ∨ j = k by omega) with h | rfl
            · exact HALL.out j x' y' h h3 h4
            · obtain rfl : x = x' := Option.some.inj (HX.out.symm.trans h3)
              obtain rfl : y = y' := Option.some.inj (HY.out.symm.trans h4)
              first | exact hq | trivial⟩
          case measure => simp [intOf]; omega
        | false =>
          rw [hq] at heq
          have HQ := Lib.hid hq
          clear hq
          go_wp2
          go_quiet (fail)
          go_wp2
          go_ret
          exact ⟨by show Ending.returned (.bool false) = _; rw [allEq_no eqA l m k x y HX.out HY.out HQ.out], n + nq, by rw [HW.out, World.drewN_drewN]⟩
      · obtain rfl : k = a := by omega
        clear hall hw
        go_wp2
        go_ret
        exact ⟨by show Ending.returned (.bool true) = _; rw [allEq_yes eqA l m (by rw [HA.out, HB.out]) (fun i x y h3 h4 => HALL.out i x y (by
          rcases Nat.lt_or_ge i l.length with hh | hh
          · rw [HA.out] at hh; exact hh
          · rw [List.getElem?_eq_none hh] at h3; cases h3) h3 h4)], n, HW.out⟩
  · have tne : ((a : Int) != (b : Int)) = true := by simp; omega
    have HE : Hid (allEq eqA l m = false) := allEq_len eqA l m (by rw [ha, hb]; exact hab)
    clear h1 h2 ha hb hab
    go_enter Tryd.func41, Tryd.ntmps41
    go_wp2
    go_ret
    exact ⟨by show Ending.returned (.bool false) = _; rw [HE.out], 0, rfl⟩
def eqS (x y : SC) : Bool := (x.id == y.id) && (x.fr == y.fr) && allEq eqA x.ws y.ws && allEq eqA x.ns y.ns
set_option maxRecDepth 4000 in
set_option maxHeartbeats 1600000 in
theorem ssame_any (x y : SC) (A B C D : Option Addr) (ca cb cc cd : Nat) (w : World) (h1 : ActsAt w A x.ws) (h2 : ActsAt w B y.ws) (h3 : ActsAt w C x.ns) (h4 : ActsAt w D y.ns) (hl : x.ws.length ≤ 1000) (hm : y.ws.length ≤ maxLen) (hl2 : x.ns.length ≤ 1000) (hm2 : y.ns.length ≤ maxLen) :
    Calls Tryd.prog 19 #[.agg #[.int .i64 x.id, .int .i64 x.fr, .slice A x.ws.length ca, .slice C x.ns.length cc], .agg #[.int .i64 y.id, .int .i64 y.fr, .slice B y.ws.length cb, .slice D y.ns.length cd]] w fun e w' => e = .returned (.bool (eqS x y)) ∧ Below w.heap.size w w' := by
  have HB2 : Hid (∀ o o', Below w.heap.size w ((w.alloc o).alloc o')) := fun o o' => two_below w o o'
  have HQ : Hid (∀ W, Below w.heap.size w W → Calls Tryd.prog 40 #[.slice A x.ws.length ca, .slice B y.ws.length cb] W fun e w' => e = .returned (.bool (allEq eqA x.ws y.ws)) ∧ ∃ n, w' = W.drewN n) := fun W b => eqrW_any A B ca cb x.ws y.ws W (h1.kept b) (h2.kept b) hl hm
  have HR : Hid (∀ W, Below w.heap.size w W → Calls Tryd.prog 41 #[.slice C x.ns.length cc, .slice D y.ns.length cd] W fun e w' => e = .returned (.bool (allEq eqA x.ns y.ns)) ∧ ∃ n, w' = W.drewN n) := fun W b => eqrN_any C D cc cd x.ns y.ns W (h3.kept b) (h4.kept b) hl2 hm2
  unfold eqS
  obtain ⟨b3, hb3⟩ : ∃ b, allEq eqA x.ws y.ws = b := ⟨_, rfl⟩
  obtain ⟨b4, hb4⟩ : ∃ b, allEq eqA x.ns y.ns = b := ⟨_, rfl⟩
  rw [hb3] at HQ ⊢
  rw [hb4] at HR ⊢
  clear h1 h2 h3 h4 hl hm hl2 hm2 hb3 hb4
  obtain ⟨i1, f1, ws1, ns1⟩ := x
  obtain ⟨i2, f2, ws2, ns2⟩ := y
  dsimp only at HQ HR ⊢
  obtain ⟨l1, hl1⟩ : ∃ l, ws1.length = l := ⟨_, rfl⟩
  obtain ⟨l2, hl2⟩ : ∃ l, ws2.length = l := ⟨_, rfl⟩
  obtain ⟨m1, hm1⟩ : ∃ l, ns1.length = l := ⟨_, rfl⟩
  obtain ⟨m2, hm2⟩ : ∃ l, ns2.length = l := ⟨_, rfl⟩
  rw [hl1, hl2] at HQ ⊢
  rw [hm1, hm2] at HR ⊢
  clear hl1 hl2 hm1 hm2
  cases t1 : (i1 == i2) with
  | false =>
    go_enter Tryd.func19, Tryd.ntmps19
    go_wp2
    go_ret
    exact ⟨rfl, HB2.out _ _⟩
  | true =>
    cases t2 : (f1 == f2) with
    | false =>
      go_enter Tryd.func19, Tryd.ntmps19
      go_wp2
      go_ret
      exact ⟨rfl, HB2.out _ _⟩
    | true =>
      cases b3 with
      | false =>
        go_enter Tryd.func19, Tryd.ntmps19
        go_wp2_with (go_at_call 40; refine (HQ.out _ (HB2.out _ _)).mono ?_; rintro e w1 ⟨rfl, n, rfl⟩; have HBN := Lib.hid (below_drewN (HB2.out (.cells #[.int .i64 i1, .int .i64 f1, .slice A l1 ca, .slice C m1 cc] 51) (.cells #[.int .i64 i2, .int .i64 f2, .slice B l2 cb, .slice D m2 cd] 51)) n))
        go_ret
        exact ⟨rfl, HBN.out⟩
      | true =>
        go_enter Tryd.func19, Tryd.ntmps19
        go_wp2_with (first
          | (go_at_call 40; refine (HQ.out _ (HB2.out _ _)).mono ?_; rintro e w1 ⟨rfl, n, rfl⟩; have HBN := Lib.hid (below_drewN (HB2.out (.cells #[.int .i64 i1, .int .i64 f1, .slice A l1 ca, .slice C m1 cc] 51) (.cells #[.int .i64 i2, .int .i64 f2, .slice B l2 cb, .slice D m2 cd] 51)) n))
          | (go_at_call 41; refine (HR.out _ HBN.out).mono ?_; rintro e w1 ⟨rfl, m, rfl⟩; have HBM := Lib.hid (below_drewN HBN.out m)))
        go_ret
        exact ⟨rfl, by simpa using HBM.out⟩
/-- The first place of an id. -/
def fiS (id : Int) : List SC → Option Nat
  | [] => none
  | x :: l => if x.id == id then some 0 else (fiS id l).map (· + 1)
theorem fs_hit (id : Int) : ∀ (l : List SC) (k : Nat) (x : SC), l[k]? = some x → (x.id == id) = true → (∀ (j : Nat) (y : SC), j < k → l[j]? = some y → (y.id == id) = false) → fiS id l = some k
  | [], k, x, h, _, _ => by simp at h
  | y :: l, 0, x, h, hx, _ => by
    obtain rfl : y = x := by simpa using h
    rw [fiS, if_pos hx]
  | y :: l, k + 1, x, h, hx, hall => by
    have h0 := hall 0 y (by omega) (by simp)
    rw [fiS, if_neg (by simp [h0]), fs_hit id l k x (by simpa using h) hx (fun j z hj hz => hall (j + 1) z (by omega) (by simpa using hz))]
    rfl
theorem fs_none (id : Int) : ∀ (l : List SC), (∀ (j : Nat) (y : SC), l[j]? = some y → (y.id == id) = false) → fiS id l = none
  | [], _ => rfl
  | y :: l, hall => by
    have h0 := hall 0 y (by simp)
    rw [fiS, if_neg (by simp [h0]), fs_none id l (fun j z hz => hall (j + 1) z (by simpa using hz))]
    rfl
theorem spred_any (x : SC) (B C : Option Addr) (cb cc b : Nat) (id : Int) (w : World) (hb : w.cell? ⟨b, 0, none⟩ = some (.int .i64 id)) :
    Calls Tryd.prog 39 #[.agg #[.int .i64 x.id, .int .i64 x.fr, .slice B x.ws.length cb, .slice C x.ns.length cc], .pointer (some ⟨b, 0, none⟩)] w fun e w' => e = .returned (.bool (x.id == id)) ∧ Below w.heap.size w w' := by
  have HB : Hid (∀ o, Below w.heap.size w (w.alloc o)) := fun o => (Below.refl _ _).alloc (Nat.le_refl _) o
  have hb2 := fun o => ((HB.out o).cell (Go.block_lt_of_cell hb)).trans hb
  obtain ⟨i1, f1, ws, ns⟩ := x
  dsimp only
  obtain ⟨t, ht⟩ : ∃ t, (i1 == id) = t := ⟨_, rfl⟩
  rw [ht]
  clear hb
  go_enter Tryd.func39, Tryd.ntmps39
  go_wp2
  go_ret
  exact ⟨rfl, HB.out _⟩
def fiI : Option Nat → Int
  | none => -1
  | some k => k
def IRelS (l : List SC) (id : Int) (w : World) (i : Value) (wr : World) : Prop := ∃ k : Nat, k ≤ l.length ∧ i = .int .i64 k ∧ (∀ (j : Nat) (y : SC), j < k → l[j]? = some y → (y.id == id) = false) ∧ Below w.heap.size w wr
set_option maxRecDepth 4000 in
set_option maxHeartbeats 1600000 in
theorem sindex_any (A : Option Addr) (cap : Nat) (l : List SC) (b : Nat) (id : Int) (w : World) (h1 : ScdAt w A l) (hl : l.length ≤ 1000) (hb : w.cell? ⟨b, 0, none⟩ = some (.int .i64 id)) :
    Calls Tryd.prog 38 #[.slice A l.length cap, .func (.func 39) #[] #[.pointer (some ⟨b, 0, none⟩)]] w fun e w' => e = .returned (.int .i64 (fiI (fiS id l))) ∧ Below w.heap.size w w' := by
  have H1 := Lib.hid h1
  have HP : Hid (∀ W, Below w.heap.size w W → W.cell? ⟨b, 0, none⟩ = some (.int .i64 id)) := fun W hw => (hw.cell (Go.block_lt_of_cell hb)).trans hb
  have HBK := Lib.hid (Go.block_lt_of_cell hb)
  obtain ⟨a, ha⟩ : ∃ a, l.length = a := ⟨_, rfl⟩
  have HA := Lib.hid ha
  rw [ha] at hl
  rw [ha]
  clear h1 ha hb
  go_enter Tryd.func38, Tryd.ntmps38
  go_wp2
  go_loopw [8] (fun i wr => IRelS l id w i wr) (fun i _ => a - (intOf i).toNat)
  case atStart => exact ⟨0, Nat.zero_le _, rfl, fun j x hj => by omega, Below.refl _ _⟩
  case round =>
    obtain ⟨k, hk, rfl, hb, hbel⟩ := hrel
    have HB := Lib.hid hb
    have HE := Lib.hid hbel
    have hka : k ≤ a := by rw [← HA.out]; exact hk
    clear hb hk hbel
    by_cases hlt : k < a
    · obtain ⟨x, hx⟩ : ∃ x, l[k]? = some x := ⟨_, List.getElem?_eq_getElem (by rw [HA.out]; exact hlt)⟩
      obtain ⟨ax, B, cb, C, cc, rfl, c1, c2, c3, c4, _⟩ := (H1.out.kept HE.out) k x hx
      have HX := Lib.hid hx
      have HC := Lib.hid (spred_any x B C cb cc b id wr (HP.out _ HE.out))
      have hki : (0 : Int) ≤ k := by omega
      have hkb : (k : Int) < a := by omega
      obtain ⟨t, ht⟩ : ∃ t, (x.id == id) = t := ⟨_, rfl⟩
      rw [ht] at HC
      have HT := Lib.hid ht
      obtain ⟨L1, hL1⟩ : ∃ L1, x.ws.length = L1 := ⟨_, rfl⟩
      obtain ⟨L2, hL2⟩ : ∃ L2, x.ns.length = L2 := ⟨_, rfl⟩
      rw [hL1] at c3 HC
      rw [hL2] at c4 HC
      clear hx hL1 hL2 ht
      go_wp2_with fail
      refine HC.out.mono ?_
      rintro e w2 ⟨rfl, hb2⟩
      have HB2 := Lib.hid (HE.out.trans (hb2.mono HE.out.size))
      clear hb2
      cases t with
      | true =>
        have HF := Lib.hid (fs_hit id l k x HX.out HT.out HB.out)
        go_wp2
        go_ret
        exact ⟨by rw [HF.out]; rfl, HB2.out⟩
      | false =>
        go_wp2
        go_roundw
        case rel => exact ⟨k + 1, by rw [HA.out]; omega, by go_num, fun j y hj hy => by
          by_cases hjk : j = k
          · subst hjk
            rw [HX.out] at hy
            obtain rfl := Option.some.inj hy
            exact HT.out
          · exact HB.out j y (by omega) hy, HB2.out⟩
        case measure => simp [intOf]; omega
    · obtain rfl : k = a := by omega
      have HF := Lib.hid (fs_none id l (fun j y hy => HB.out j y (by rw [← HA.out]; exact (List.getElem?_eq_some_iff.1 hy).1) hy))
      go_wp2
      go_ret
      exact ⟨by rw [HF.out]; rfl, HE.out⟩
theorem fs_lt (id : Int) : ∀ (l : List SC) (k : Nat), fiS id l = some k → k < l.length
  | [], k, h => by cases h
  | y :: l, k, h => by
    rw [fiS] at h
    split at h
    · obtain rfl := Option.some.inj h; simp
    · obtain ⟨j, hj, rfl⟩ := Option.map_eq_some_iff.1 h
      have := fs_lt id l j hj
      simp; omega
def fiV (o : Option Nat) : Nat := o.getD 0
set_option maxRecDepth 4000 in
theorem sfind_any (A : Option Addr) (cap : Nat) (l : List SC) (id : Int) (w : World) (h1 : ScdAt w A l) (hl : l.length ≤ 1000) :
    Calls Tryd.prog 18 #[.slice A l.length cap, .int .i64 id] w fun e w' => e = .returned (.tuple #[.int .i64 (fiV (fiS id l)), .bool (fiS id l).isSome]) ∧ Below w.heap.size w w' := by
  have hb : Below w.heap.size w (w.alloc (.cells #[.int .i64 id] 3)) := (Below.refl _ _).alloc (Nat.le_refl _) _
  have HI := Lib.hid (sindex_any A cap l w.heap.size id _ (h1.kept hb) hl (by rw [cell_of_row _ _ 0 _ _ _ (heap_alloc_new w (.cells #[.int .i64 id] 3))]; rfl))
  have HB := Lib.hid hb
  obtain ⟨a, ha⟩ : ∃ a, l.length = a := ⟨_, rfl⟩
  have hlt := fs_lt id l
  rw [ha] at HI hl hlt
  rw [ha]
  obtain ⟨o, ho⟩ : ∃ o, fiS id l = o := ⟨_, rfl⟩
  rw [ho] at HI hlt
  rw [ho]
  clear hb h1 ha ho
  cases o with
  | none =>
    unfold fiI at HI
    clear hlt
    go_enter Tryd.func18, Tryd.ntmps18
    go_wp2_with fail
    refine HI.out.mono ?_
    rintro e w2 ⟨rfl, hb2⟩
    have HB2 := Lib.hid (HB.out.trans (hb2.mono HB.out.size))
    clear hb2
    go_wp2
    go_ret2
    exact ⟨rfl, HB2.out⟩
  | some k =>
    have hk := hlt k rfl
    unfold fiI at HI
    have hki : (0 : Int) ≤ k := by omega
    have tm : max (k : Int) 0 = k := by omega
    clear hlt
    go_enter Tryd.func18, Tryd.ntmps18
    go_wp2_with fail
    refine HI.out.mono ?_
    rintro e w2 ⟨rfl, hb2⟩
    have HB2 := Lib.hid (HB.out.trans (hb2.mono HB.out.size))
    clear hb2
    go_wp2
    go_ret2
    exact ⟨rfl, HB2.out⟩
theorem acts_flat {w : World} {y : Addr} {l : List A3} (h : ActsAt w (some y) l) : ∀ j v, (flatA l)[j]? = some v → w.cell? (y.add j) = some v := by
  intro j v hj
  have hfl : (flatA l).length = l.length * 3 := by
    clear h hj
    induction l with
    | nil => rfl
    | cons x l ih => have e : flatA (x :: l) = actL x ++ flatA l := rfl
                     rw [e, List.length_append, ih, List.length_cons]; show 3 + _ = _; omega
  have hjl : j < l.length * 3 := by rw [← hfl]; exact (List.getElem?_eq_some_iff.1 hj).1
  obtain ⟨x, hx⟩ : ∃ x, l[j / 3]? = some x := ⟨_, List.getElem?_eq_getElem (by omega)⟩
  obtain ⟨y', hy, c1, c2, c3⟩ := h (j / 3) x hx
  obtain rfl := Option.some.inj hy
  rw [add_more _ _ _ (by omega)] at c2 c3
  have hg := flatA_get l (j / 3) x (j % 3) hx (by omega)
  rw [show j / 3 * 3 + j % 3 = j by omega, hj] at hg
  rcases (show j % 3 = 0 ∨ j % 3 = 1 ∨ j % 3 = 2 by omega) with h0 | h0 | h0
  · rw [h0] at hg; rw [show j = j / 3 * 3 by omega, c1]; exact hg.symm
  · rw [h0] at hg; rw [show j = j / 3 * 3 + 1 by omega, c2]; exact hg.symm
  · rw [h0] at hg; rw [show j = j / 3 * 3 + 2 by omega, c3]; exact hg.symm
theorem flatA_len3 (l : List A3) : (flatA l).length = l.length * 3 := by
  induction l with
  | nil => rfl
  | cons x l ih => have e : flatA (x :: l) = actL x ++ flatA l := rfl
                   rw [e, List.length_append, ih, List.length_cons]; show 3 + _ = _; omega
theorem flatA_one (l : List A3) : ∀ v ∈ flatA l, v.oneCell' = true := by
  intro v hv
  obtain ⟨x, _, hx⟩ := List.mem_flatMap.1 hv
  simp [actL] at hx
  rcases hx with rfl | rfl | rfl <;> rfl
def CRPostW (l : List A3) (w : World) (e : Ending) (w' : World) : Prop := ∃ V, e = .returned V ∧ w'.ownsRow w.heap.size 59 3 V l.length (flatA l) ∧ Below w.heap.size w w'
set_option maxRecDepth 4000 in
set_option maxHeartbeats 800000 in
theorem crowsW_any (A : Option Addr) (cap : Nat) (l : List A3) (w : World) (hx : ActsAt w A l) (hnil : A = none → cap = 0) (hlc : l.length ≤ cap) (hl : l.length ≤ 1099511627776) :
    Calls Tryd.prog 51 #[.slice A l.length cap] w (CRPostW l w) := by
  obtain ⟨i0, hi, hz0, hz1, hz2⟩ := info_parts infoW
  cases A with
  | none =>
    obtain rfl := hnil rfl
    obtain rfl : l = [] := List.eq_nil_of_length_eq_zero (by omega)
    have he : ∀ W, (binOp .eql 48 (.slice none 0 0) (.slice none 0 0)).run Tryd.prog W = .ok (.bool true) W := fun W => Lib.run_eql_slice_nil W _ _ none 0 0 0 0 Tryd.underlying48
    clear hx hnil hl hi
    go_enter Tryd.func51, Tryd.ntmps51
    go_wp2
    go_ret
    exact ⟨_, rfl, World.ownsRow_nil _ _ _ _, Below.refl _ _⟩
  | some a =>
    have hb0 : Below w.heap.size w (w.alloc (.cells #[] 59)) := (Below.refl _ _).alloc (Nat.le_refl _) _
    have HX := Lib.hid (acts_flat (hx.kept hb0))
    have HB := Lib.hid hb0
    have HO : Hid ((w.alloc (.cells #[] 59)).ownsRow w.heap.size 59 3 (.slice (some ⟨w.heap.size, 0, none⟩) 0 0) 0 []) := World.ownsRow_lit w #[] 0 (Nat.le_refl _) (Nat.zero_le _) rfl
    have HFL := Lib.hid (flatA_len3 l)
    have HON := Lib.hid (flatA_one l)
    obtain ⟨LL, hLL⟩ : ∃ LL, l.length = LL := ⟨_, rfl⟩
    have HLL := Lib.hid hLL
    rw [hLL] at hl hlc HFL
    rw [hLL]
    clear hx hnil hb0 hLL
    obtain ⟨ab, ao, asp⟩ := a
    have he : ∀ W, (binOp .eql 48 (.slice (some ⟨ab, ao, asp⟩) LL cap) (.slice none 0 0)).run Tryd.prog W = .ok (.bool false) W := fun W => Lib.run_eql_slice_nil W _ _ (some ⟨ab, ao, asp⟩) LL cap 0 0 Tryd.underlying48
    go_enter Tryd.func51, Tryd.ntmps51
    go_wp2_with (at_builtin; refine wpList_append_own _ rfl _ _ 48 rfl w.heap.size 59 i0 (.agg #[.int .i64 0, .int .i64 0, .int .i64 0]) 3 24 Tryd.underlying48 hi hz0 hz1 hz2 rfl (by decide) _ 0 [] rfl HO.out ⟨ab, ao, asp⟩ LL cap (flatA l) rfl ?c1 ?c2 ?c3 ?c4 ?c5 ?c6 ?_)
    case c1 => exact HFL.out
    case c2 => exact HX.out
    case c3 => exact HON.out
    case c4 => unfold maxLen; omega
    case c5 => omega
    case c6 => simp
    intro v' w2 ho2 hg2 _
    have hb2 := HB.out.grown hg2 (by simp) (fun j hj => by first | (simp [Value.ownBlock] at hj; omega) | exact (ho2.lt j hj).1)
    clear hg2
    go_wp2
    go_ret
    exact ⟨v', rfl, by rw [HLL.out]; simpa using ho2, hb2⟩
def CRPostN (l : List A3) (w : World) (e : Ending) (w' : World) : Prop := ∃ V, e = .returned V ∧ w'.ownsRow w.heap.size 68 3 V l.length (flatA l) ∧ Below w.heap.size w w'
set_option maxRecDepth 4000 in
set_option maxHeartbeats 800000 in
theorem crowsN_any (A : Option Addr) (cap : Nat) (l : List A3) (w : World) (hx : ActsAt w A l) (hnil : A = none → cap = 0) (hlc : l.length ≤ cap) (hl : l.length ≤ 1099511627776) :
    Calls Tryd.prog 52 #[.slice A l.length cap] w (CRPostN l w) := by
  obtain ⟨i0, hi, hz0, hz1, hz2⟩ := info_parts infoN
  cases A with
  | none =>
    obtain rfl := hnil rfl
    obtain rfl : l = [] := List.eq_nil_of_length_eq_zero (by omega)
    have he : ∀ W, (binOp .eql 49 (.slice none 0 0) (.slice none 0 0)).run Tryd.prog W = .ok (.bool true) W := fun W => Lib.run_eql_slice_nil W _ _ none 0 0 0 0 Tryd.underlying49
    clear hx hnil hl hi
    go_enter Tryd.func52, Tryd.ntmps52
    go_wp2
    go_ret
    exact ⟨_, rfl, World.ownsRow_nil _ _ _ _, Below.refl _ _⟩
  | some a =>
    have hb0 : Below w.heap.size w (w.alloc (.cells #[] 68)) := (Below.refl _ _).alloc (Nat.le_refl _) _
    have HX := Lib.hid (acts_flat (hx.kept hb0))
    have HB := Lib.hid hb0
    have HO : Hid ((w.alloc (.cells #[] 68)).ownsRow w.heap.size 68 3 (.slice (some ⟨w.heap.size, 0, none⟩) 0 0) 0 []) := World.ownsRow_lit w #[] 0 (Nat.le_refl _) (Nat.zero_le _) rfl
    have HFL := Lib.hid (flatA_len3 l)
    have HON := Lib.hid (flatA_one l)
    obtain ⟨LL, hLL⟩ : ∃ LL, l.length = LL := ⟨_, rfl⟩
    have HLL := Lib.hid hLL
    rw [hLL] at hl hlc HFL
    rw [hLL]
    clear hx hnil hb0 hLL
    obtain ⟨ab, ao, asp⟩ := a
    have he : ∀ W, (binOp .eql 49 (.slice (some ⟨ab, ao, asp⟩) LL cap) (.slice none 0 0)).run Tryd.prog W = .ok (.bool false) W := fun W => Lib.run_eql_slice_nil W _ _ (some ⟨ab, ao, asp⟩) LL cap 0 0 Tryd.underlying49
    go_enter Tryd.func52, Tryd.ntmps52
    go_wp2_with (at_builtin; refine wpList_append_own _ rfl _ _ 49 rfl w.heap.size 68 i0 (.agg #[.int .i64 0, .int .i64 0, .int .i64 0]) 3 24 Tryd.underlying49 hi hz0 hz1 hz2 rfl (by decide) _ 0 [] rfl HO.out ⟨ab, ao, asp⟩ LL cap (flatA l) rfl ?c1 ?c2 ?c3 ?c4 ?c5 ?c6 ?_)
    case c1 => exact HFL.out
    case c2 => exact HX.out
    case c3 => exact HON.out
    case c4 => unfold maxLen; omega
    case c5 => omega
    case c6 => simp
    intro v' w2 ho2 hg2 _
    have hb2 := HB.out.grown hg2 (by simp) (fun j hj => by first | (simp [Value.ownBlock] at hj; omega) | exact (ho2.lt j hj).1)
    clear hg2
    go_wp2
    go_ret
    exact ⟨v', rfl, by rw [HLL.out]; simpa using ho2, hb2⟩
/-- A schedule whose windows' and needs' slices are these values. -/
def QS (w : World) (q : SC × Value × Value) : Prop := ∃ B cb C cc, q.2.1 = .slice B q.1.ws.length cb ∧ q.2.2 = .slice C q.1.ns.length cc ∧ ActsAt w B q.1.ws ∧ (B = none → cb = 0) ∧ q.1.ws.length ≤ cb ∧ cb ≤ maxLen ∧ ActsAt w C q.1.ns ∧ (C = none → cc = 0) ∧ q.1.ns.length ≤ cc ∧ cc ≤ maxLen
theorem QS.kept {w w' : World} {q : SC × Value × Value} (h : QS w q) (b : Below w.heap.size w w') : QS w' q := by
  obtain ⟨B, cb, C, cc, h1, h2, h3, h4, h5, h6, h7, h8⟩ := h
  exact ⟨B, cb, C, cc, h1, h2, h3.kept b, h4, h5, h6, h7.kept b, h8⟩
theorem flatS_len (L : List (SC × Value × Value)) : (flatS L).length = L.length * 4 := by
  induction L with
  | nil => rfl
  | cons x l ih => have e : flatS (x :: l) = scL x ++ flatS l := rfl
                   rw [e, List.length_append, ih, List.length_cons]; show 4 + _ = _; omega
theorem scheds_flat {w : World} {y : Addr} {l : List SC} (h : ScdAt w (some y) l) : ∃ L : List (SC × Value × Value), L.map Prod.fst = l ∧ (∀ q ∈ L, QS w q) ∧ ∀ j v, (flatS L)[j]? = some v → w.cell? (y.add j) = some v := by
  obtain ⟨L, hL, hp⟩ := list_of (fun i (q : SC × Value × Value) => l[i]? = some q.1 ∧ QS w q ∧ w.cell? (y.add (i * 4)) = some (.int .i64 q.1.id) ∧ w.cell? (y.add (i * 4 + 1)) = some (.int .i64 q.1.fr) ∧ w.cell? (y.add (i * 4 + 2)) = some q.2.1 ∧ w.cell? (y.add (i * 4 + 3)) = some q.2.2) l.length (by
    intro i hi
    have hx : l[i]? = some l[i] := List.getElem?_eq_getElem hi
    obtain ⟨y', B, cb, C, cc, hy, c1, c2, c3, c4, h5⟩ := h i _ hx
    obtain rfl := Option.some.inj hy
    rw [add_more _ _ _ (by omega)] at c2 c3 c4
    exact ⟨(l[i], .slice B l[i].ws.length cb, .slice C l[i].ns.length cc), hx, ⟨B, cb, C, cc, rfl, rfl, h5⟩, c1, c2, c3, c4⟩)
  refine ⟨L, ?_, fun q hq => ?_, fun j v hj => ?_⟩
  · apply List.ext_getElem?
    intro i
    rw [List.getElem?_map]
    rcases Nat.lt_or_ge i L.length with hi | hi
    · have hx : L[i]? = some L[i] := List.getElem?_eq_getElem hi
      rw [hx, (hp i _ hx).1]; rfl
    · rw [List.getElem?_eq_none hi, List.getElem?_eq_none (by omega)]; rfl
  · obtain ⟨i, hi, rfl⟩ := List.mem_iff_getElem.1 hq
    exact (hp i _ (List.getElem?_eq_getElem hi)).2.1
  · have hjl : j < L.length * 4 := by rw [← flatS_len]; exact (List.getElem?_eq_some_iff.1 hj).1
    obtain ⟨q, hq⟩ : ∃ q, L[j / 4]? = some q := ⟨_, List.getElem?_eq_getElem (by omega)⟩
    obtain ⟨_, _, c1, c2, c3, c4⟩ := hp _ q hq
    have hg := flatS_get L (j / 4) q (j % 4) hq (by omega)
    rw [show j / 4 * 4 + j % 4 = j by omega, hj] at hg
    rcases (show j % 4 = 0 ∨ j % 4 = 1 ∨ j % 4 = 2 ∨ j % 4 = 3 by omega) with h0 | h0 | h0 | h0
    · rw [h0] at hg; rw [show j = j / 4 * 4 by omega, c1]; exact hg.symm
    · rw [h0] at hg; rw [show j = j / 4 * 4 + 1 by omega, c2]; exact hg.symm
    · rw [h0] at hg; rw [show j = j / 4 * 4 + 2 by omega, c3]; exact hg.symm
    · rw [h0] at hg; rw [show j = j / 4 * 4 + 3 by omega, c4]; exact hg.symm
theorem flatS_one {w : World} (L : List (SC × Value × Value)) (h : ∀ q ∈ L, QS w q) : ∀ v ∈ flatS L, v.oneCell' = true := by
  intro v hv
  obtain ⟨x, hm, hx⟩ := List.mem_flatMap.1 hv
  obtain ⟨B, cb, C, cc, h1, h2, _⟩ := h x hm
  simp [scL] at hx
  rcases hx with rfl | rfl | rfl | rfl
  · rfl
  · rfl
  · rw [h1]; rfl
  · rw [h2]; rfl
def CSPost (l : List SC) (w : World) (e : Ending) (w' : World) : Prop := ∃ V L, e = .returned V ∧ L.map Prod.fst = l ∧ (∀ q ∈ L, QS w q) ∧ w'.ownsRow w.heap.size 51 4 V L.length (flatS L) ∧ Below w.heap.size w w'
set_option maxRecDepth 4000 in
set_option maxHeartbeats 800000 in
theorem cscheds_any (A : Option Addr) (cap : Nat) (l : List SC) (w : World) (hx : ScdAt w A l) (hnil : A = none → cap = 0) (hlc : l.length ≤ cap) (hl : l.length ≤ 1099511627776) :
    Calls Tryd.prog 50 #[.slice A l.length cap] w (CSPost l w) := by
  obtain ⟨i0, hi, hz0, hz1, hz2⟩ := info_parts infoSc
  cases A with
  | none =>
    obtain rfl := hnil rfl
    obtain rfl : l = [] := List.eq_nil_of_length_eq_zero (by omega)
    have he : ∀ W, (binOp .eql 23 (.slice none 0 0) (.slice none 0 0)).run Tryd.prog W = .ok (.bool true) W := fun W => Lib.run_eql_slice_nil W _ _ none 0 0 0 0 Tryd.underlying23
    clear hx hnil hl hi
    go_enter Tryd.func50, Tryd.ntmps50
    go_wp2
    go_ret
    exact ⟨_, [], rfl, rfl, fun q hq => (by cases hq), World.ownsRow_nil _ _ _ _, Below.refl _ _⟩
  | some a =>
    have hb0 : Below w.heap.size w (w.alloc (.cells #[] 51)) := (Below.refl _ _).alloc (Nat.le_refl _) _
    obtain ⟨L, hLm, hLq, hLf⟩ := scheds_flat hx
    have HX : Hid (∀ j v, (flatS L)[j]? = some v → (w.alloc (.cells #[] 51)).cell? (a.add j) = some v) := fun j v hj => by
      have := hLf j v hj
      exact (hb0.cell (Go.block_lt_of_cell this)).trans this
    have HB := Lib.hid hb0
    have HO : Hid ((w.alloc (.cells #[] 51)).ownsRow w.heap.size 51 4 (.slice (some ⟨w.heap.size, 0, none⟩) 0 0) 0 []) := World.ownsRow_lit w #[] 0 (Nat.le_refl _) (Nat.zero_le _) rfl
    have HFL := Lib.hid (flatS_len L)
    have HON := Lib.hid (flatS_one L hLq)
    have hLn : L.length = l.length := by rw [← hLm, List.length_map]
    have HLM := Lib.hid hLm
    have HLQ := Lib.hid hLq
    obtain ⟨LL, hLL⟩ : ∃ LL, l.length = LL := ⟨_, rfl⟩
    rw [hLL] at hLn hl hlc
    have HLN := Lib.hid hLn
    rw [hLn] at HFL
    rw [hLL]
    clear hx hnil hb0 hLL hLm hLq hLf hLn
    obtain ⟨ab, ao, asp⟩ := a
    have he : ∀ W, (binOp .eql 23 (.slice (some ⟨ab, ao, asp⟩) LL cap) (.slice none 0 0)).run Tryd.prog W = .ok (.bool false) W := fun W => Lib.run_eql_slice_nil W _ _ (some ⟨ab, ao, asp⟩) LL cap 0 0 Tryd.underlying23
    go_enter Tryd.func50, Tryd.ntmps50
    go_wp2_with (at_builtin; refine wpList_append_own _ rfl _ _ 23 rfl w.heap.size 51 i0 (.agg #[.int .i64 0, .int .i64 0, .slice none 0 0, .slice none 0 0]) 4 64 Tryd.underlying23 hi hz0 hz1 hz2 rfl (by decide) _ 0 [] rfl HO.out ⟨ab, ao, asp⟩ LL cap (flatS L) rfl ?c1 ?c2 ?c3 ?c4 ?c5 ?c6 ?_)
    case c1 => exact HFL.out
    case c2 => exact HX.out
    case c3 => exact HON.out
    case c4 => unfold maxLen; omega
    case c5 => omega
    case c6 => simp
    intro v' w2 ho2 hg2 _
    have hb2 := HB.out.grown hg2 (by simp) (fun j hj => by first | (simp [Value.ownBlock] at hj; omega) | exact (ho2.lt j hj).1)
    clear hg2
    go_wp2
    go_ret
    exact ⟨v', L, rfl, HLM.out, HLQ.out, by rw [HLN.out]; simpa using ho2, hb2⟩
end Go.Proofs.YtbcjkongcnpdlaaDoor.Scd

namespace Go.Proofs.YtbcjkongcnpdlaaDoor.Scd

open Go.RowKit Go.PlainAid Go.Proofs.YtbcjkongcnpdlaaDoor.Oct Go.Proofs.YtbcjkongcnpdlaaDoor.Flt Go.Proofs.YtbcjkongcnpdlaaDoor.Rdr Go.Proofs.YtbcjkongcnpdlaaDoor.Act

open Go.Proofs.YtbcjkongcnpdlaaDoor.Prt (add_at add_more)

set_option linter.unusedVariables false

set_option linter.unusedSimpArgs false

theorem flatS_setW : ∀ (L : List (SC × Value × Value)) (k : Nat) (q : SC × Value × Value) (u : Value), L[k]? = some q → (flatS L).set (k * 4 + 2) u = flatS (L.set k (q.1, u, q.2.2))
  | [], k, q, u, h => by simp at h
  | y :: l, 0, q, u, h => by
    obtain rfl : y = q := by simpa using h
    simp [flatS, scL]
  | y :: l, k + 1, q, u, h => by
    have ih := flatS_setW l k q u (by simpa using h)
    have e : ∀ L : List (SC × Value × Value), flatS (y :: L) = [.int .i64 y.1.id, .int .i64 y.1.fr, y.2.1, y.2.2] ++ flatS L := fun _ => rfl
    rw [List.set_cons_succ, e, e, ← ih, List.set_append_right _ _ (by simp; omega)]
    congr 2
    simp; omega
theorem flatS_setN : ∀ (L : List (SC × Value × Value)) (k : Nat) (q : SC × Value × Value) (u : Value), L[k]? = some q → (flatS L).set (k * 4 + 3) u = flatS (L.set k (q.1, q.2.1, u))
  | [], k, q, u, h => by simp at h
  | y :: l, 0, q, u, h => by
    obtain rfl : y = q := by simpa using h
    simp [flatS, scL]
  | y :: l, k + 1, q, u, h => by
    have ih := flatS_setN l k q u (by simpa using h)
    have e : ∀ L : List (SC × Value × Value), flatS (y :: L) = [.int .i64 y.1.id, .int .i64 y.1.fr, y.2.1, y.2.2] ++ flatS L := fun _ => rfl
    rw [List.set_cons_succ, e, e, ← ih, List.set_append_right _ _ (by simp; omega)]
    congr 2
    simp; omega
def QW (w : World) (q : SC × Value × Value) : Prop := ∃ B cb, q.2.1 = .slice B q.1.ws.length cb ∧ ActsAt w B q.1.ws ∧ (B = none → cb = 0) ∧ q.1.ws.length ≤ cb ∧ cb ≤ maxLen
def QN (w : World) (q : SC × Value × Value) : Prop := ∃ C cc, q.2.2 = .slice C q.1.ns.length cc ∧ ActsAt w C q.1.ns ∧ (C = none → cc = 0) ∧ q.1.ns.length ≤ cc ∧ cc ≤ maxLen
theorem QS.w {w : World} {q : SC × Value × Value} (h : QS w q) : QW w q := by
  obtain ⟨B, cb, C, cc, h1, h2, h3, h4, h5, h6, h7⟩ := h
  exact ⟨B, cb, h1, h3, h4, h5, h6⟩
theorem QS.n {w : World} {q : SC × Value × Value} (h : QS w q) : QN w q := by
  obtain ⟨B, cb, C, cc, h1, h2, h3, h4, h5, h6, h7⟩ := h
  exact ⟨C, cc, h2, h7⟩
/-- Within Clone: the windows of so many rows, and the needs of so many, are the call's own; the windows' blocks are apart. -/
structure DS (k m : Nat) (l : List SC) (L : List (SC × Value × Value)) (V : Value) (w wr : World) : Prop where
  own : wr.ownsRow w.heap.size 51 4 V L.length (flatS L)
  fst : L.map Prod.fst = l
  subW : ∀ (i : Nat) (q : SC × Value × Value), i < k → L[i]? = some q → wr.ownsRow w.heap.size 59 3 q.2.1 q.1.ws.length (flatA q.1.ws)
  subN : ∀ (i : Nat) (q : SC × Value × Value), i < m → L[i]? = some q → wr.ownsRow w.heap.size 68 3 q.2.2 q.1.ns.length (flatA q.1.ns)
  restW : ∀ (i : Nat) (q : SC × Value × Value), k ≤ i → L[i]? = some q → QW w q
  restN : ∀ (i : Nat) (q : SC × Value × Value), m ≤ i → L[i]? = some q → QN w q
  apart : ∀ (i j : Nat) (q q' : SC × Value × Value) (b : Nat), i < k → j < k → i ≠ j → L[i]? = some q → L[j]? = some q' → q.2.1.ownBlock = some b → q'.2.1.ownBlock ≠ some b
  below : Below w.heap.size w wr
theorem just_cellS (w : World) (G o : Nat) (v : Value) : Just G w (w.setCell ⟨G, o, none⟩ v) := (Just.refl G w).setCell o v
theorem get_set {L : List (SC × Value × Value)} {k : Nat} {r : SC × Value × Value} (hkl : k < L.length) (i : Nat) (p : SC × Value × Value) (h : (L.set k r)[i]? = some p) : (i = k ∧ p = r) ∨ (i ≠ k ∧ L[i]? = some p) := by
  by_cases hik : i = k
  · subst hik
    rw [List.getElem?_set_self hkl] at h
    exact .inl ⟨rfl, (Option.some.inj h).symm⟩
  · rw [List.getElem?_set_ne (fun e => hik e.symm)] at h
    exact .inr ⟨hik, h⟩
theorem map_set {L : List (SC × Value × Value)} {l : List SC} {k : Nat} {q : SC × Value × Value} (hf : L.map Prod.fst = l) (hq : L[k]? = some q) (u : Value × Value) : (L.set k (q.1, u)).map Prod.fst = l := by
  have hkl : k < L.length := (List.getElem?_eq_some_iff.1 hq).1
  rw [List.map_set]
  apply List.ext_getElem?
  intro i
  by_cases hik : i = k
  · subst hik
    rw [List.getElem?_set_self (by rw [List.length_map]; exact hkl), ← hf, List.getElem?_map, hq]; rfl
  · rw [List.getElem?_set_ne (fun e => hik e.symm), hf]
theorem row_below {w w2 : World} {B n : Nat} {T : TypeId} {s : Nat} {V : Value} {xs : List Value} (h : w.ownsRow B T s V n xs) (b : Below w.heap.size w w2) : w2.ownsRow B T s V n xs :=
  row_beside h (Just.of_below (g := w2.heap.size) b) fun j hj => by
    have h1 := (h.lt j hj).2
    have h2 := b.size
    omega
theorem DS.stepW {k m : Nat} {l : List SC} {L : List (SC × Value × Value)} {G n c : Nat} {w wr w2 : World} {q : SC × Value × Value} {u : Value} (f : DS k m l L (.slice (some ⟨G, 0, none⟩) n c) w wr) (hn : n = L.length) (hq : L[k]? = some q) (b : Below wr.heap.size wr w2)
    (hu : w2.ownsRow wr.heap.size 59 3 u q.1.ws.length (flatA q.1.ws)) : DS (k + 1) m l (L.set k (q.1, u, q.2.2)) (.slice (some ⟨G, 0, none⟩) n c) w (w2.setCell ⟨G, k * 4 + 2, none⟩ u) := by
  subst hn
  have hGl := f.own.lt G rfl
  have o2 := row_below f.own b
  have hkl : k < L.length := (List.getElem?_eq_some_iff.1 hq).1
  have hGb : w2.heap[G]? = some (.cells _ 51 (0, 0)) := (Prt.own_block o2 (rfl : (Value.slice (some ⟨G, 0, none⟩) L.length c).ownBlock = some G)).choose_spec
  have keep : ∀ {T : TypeId} {v : Value} {m : Nat} {ys : List Value}, T ≠ 51 → w2.ownsRow w.heap.size T 3 v m ys → (w2.setCell ⟨G, k * 4 + 2, none⟩ u).ownsRow w.heap.size T 3 v m ys := fun {T v m ys} hT h => row_beside h (just_cellS w2 G (k * 4 + 2) u) (own_apart h hT hGb)
  have hu0 := row_base hu f.below.size
  have get := get_set (r := (q.1, u, q.2.2)) hkl
  refine ⟨?_, map_set f.fst hq _, fun i p hi hp => ?_, fun i p hi hp => ?_, fun i p hi hp => ?_, fun i p hi hp => ?_, fun i j p p' b' hi hj hij hp hp' hb' => ?_, ?_⟩
  · rw [List.length_set, ← flatS_setW L k q u hq]
    exact (o2.stored (k * 4 + 2) u).1
  · rcases get i p hp with ⟨rfl, rfl⟩ | ⟨hik, h⟩
    · exact keep (by decide) hu0
    · exact keep (by decide) (row_below (f.subW i p (by omega) h) b)
  · rcases get i p hp with ⟨rfl, rfl⟩ | ⟨hik, h⟩
    · exact keep (by decide) (row_below (f.subN i q hi hq) b)
    · exact keep (by decide) (row_below (f.subN i p hi h) b)
  · rcases get i p hp with ⟨rfl, rfl⟩ | ⟨hik, h⟩
    · omega
    · exact f.restW i p (by omega) h
  · rcases get i p hp with ⟨rfl, rfl⟩ | ⟨hik, h⟩
    · exact f.restN i q hi hq
    · exact f.restN i p hi h
  · rcases get i p hp with ⟨rfl, rfl⟩ | ⟨hik, h⟩
    · rcases get j p' hp' with ⟨rfl, rfl⟩ | ⟨hjk, h'⟩
      · omega
      · intro e
        have h1 := (hu.lt b' hb').1
        have h2 := ((f.subW j p' (by omega) h').lt b' e).2
        omega
    · rcases get j p' hp' with ⟨rfl, rfl⟩ | ⟨hjk, h'⟩
      · intro e
        have h1 := (hu.lt b' e).1
        have h2 := ((f.subW i p (by omega) h).lt b' hb').2
        omega
      · exact f.apart i j p p' b' (by omega) (by omega) hij h h' hb'
  · exact (f.below.trans (b.mono f.below.size)).setCell hGl.1 u
theorem DS.stepN {k m : Nat} {l : List SC} {L : List (SC × Value × Value)} {G n c : Nat} {w wr w2 : World} {q : SC × Value × Value} {u : Value} (f : DS k m l L (.slice (some ⟨G, 0, none⟩) n c) w wr) (hn : n = L.length) (hq : L[m]? = some q) (b : Below wr.heap.size wr w2)
    (hu : w2.ownsRow wr.heap.size 68 3 u q.1.ns.length (flatA q.1.ns)) : DS k (m + 1) l (L.set m (q.1, q.2.1, u)) (.slice (some ⟨G, 0, none⟩) n c) w (w2.setCell ⟨G, m * 4 + 3, none⟩ u) := by
  subst hn
  have hGl := f.own.lt G rfl
  have o2 := row_below f.own b
  have hkl : m < L.length := (List.getElem?_eq_some_iff.1 hq).1
  have hGb : w2.heap[G]? = some (.cells _ 51 (0, 0)) := (Prt.own_block o2 (rfl : (Value.slice (some ⟨G, 0, none⟩) L.length c).ownBlock = some G)).choose_spec
  have keep : ∀ {T : TypeId} {v : Value} {j : Nat} {ys : List Value}, T ≠ 51 → w2.ownsRow w.heap.size T 3 v j ys → (w2.setCell ⟨G, m * 4 + 3, none⟩ u).ownsRow w.heap.size T 3 v j ys := fun {T v j ys} hT h => row_beside h (just_cellS w2 G (m * 4 + 3) u) (own_apart h hT hGb)
  have hu0 := row_base hu f.below.size
  have get := get_set (r := (q.1, q.2.1, u)) hkl
  refine ⟨?_, map_set f.fst hq _, fun i p hi hp => ?_, fun i p hi hp => ?_, fun i p hi hp => ?_, fun i p hi hp => ?_, fun i j p p' b' hi hj hij hp hp' hb' => ?_, ?_⟩
  · rw [List.length_set, ← flatS_setN L m q u hq]
    exact (o2.stored (m * 4 + 3) u).1
  · rcases get i p hp with ⟨rfl, rfl⟩ | ⟨hik, h⟩
    · exact keep (by decide) (row_below (f.subW i q hi hq) b)
    · exact keep (by decide) (row_below (f.subW i p hi h) b)
  · rcases get i p hp with ⟨rfl, rfl⟩ | ⟨hik, h⟩
    · exact keep (by decide) hu0
    · exact keep (by decide) (row_below (f.subN i p (by omega) h) b)
  · rcases get i p hp with ⟨rfl, rfl⟩ | ⟨hik, h⟩
    · exact f.restW i q hi hq
    · exact f.restW i p hi h
  · rcases get i p hp with ⟨rfl, rfl⟩ | ⟨hik, h⟩
    · omega
    · exact f.restN i p (by omega) h
  · rcases get i p hp with ⟨rfl, rfl⟩ | ⟨hik, h⟩
    · rcases get j p' hp' with ⟨rfl, rfl⟩ | ⟨hjk, h'⟩
      · omega
      · exact f.apart i j q p' b' hi hj hij hq h' hb'
    · rcases get j p' hp' with ⟨rfl, rfl⟩ | ⟨hjk, h'⟩
      · exact f.apart i j p q b' hi hj hij h hq hb'
      · exact f.apart i j p p' b' hi hj hij h h' hb'
  · exact (f.below.trans (b.mono f.below.size)).setCell hGl.1 u
def DSPost (l : List SC) (w : World) (e : Ending) (w' : World) : Prop := ∃ V L, e = .returned V ∧ DS L.length L.length l L V w w'
def DSRel (l : List SC) (V : Value) (w : World) (i : Value) (wr : World) : Prop := ∃ (k : Nat) (L : List (SC × Value × Value)), k ≤ l.length ∧ i = .int .i64 k ∧ DS k k l L V w wr
set_option maxRecDepth 8000 in
set_option maxHeartbeats 4800000 in
theorem sclone_any (A : Option Addr) (cap : Nat) (l : List SC) (w : World) (hx : ScdAt w A l) (hnil : A = none → cap = 0) (hlc : l.length ≤ cap) (hl : l.length ≤ 1000) (hcl : ∀ x ∈ l, x.ws.length ≤ 1000 ∧ x.ns.length ≤ 1000) :
    Calls Tryd.prog 22 #[.slice A l.length cap] w (DSPost l w) := by
  have HC := Lib.hid (cscheds_any A cap l w hx hnil hlc (by omega))
  have HCL := Lib.hid hcl
  obtain ⟨n, hn⟩ : ∃ n, l.length = n := ⟨_, rfl⟩
  have HN := Lib.hid hn
  rw [hn] at HC hl hlc
  rw [hn]
  clear hx hnil hcl hn
  go_enter Tryd.func22, Tryd.ntmps22
  go_wp2_with fail
  refine HC.out.mono ?_
  rintro e w1 ⟨V, L0, rfl, hm, hq, ho, hb⟩
  have hL0 : L0.length = n := by rw [← HN.out, ← hm, List.length_map]
  obtain ⟨A2, c, rfl⟩ : ∃ A2 c, V = .slice A2 n c := by
    rcases ho.2 with ⟨rfl, h0⟩ | ⟨g', c', cur, rfl, _⟩
    · exact ⟨none, 0, by rw [← hL0, h0]⟩
    · exact ⟨_, _, by rw [hL0]⟩
  have hd : DS 0 0 l L0 (.slice A2 n c) w w1 := ⟨ho, hm, fun i q hi => by omega, fun i q hi => by omega, fun i q _ h => (hq q (List.mem_of_getElem? h)).w, fun i q _ h => (hq q (List.mem_of_getElem? h)).n, fun i j q q' b hi => by omega, hb⟩
  have HD := Lib.hid hd
  clear ho hm hq hb hL0 hd HC
  go_wp2
  go_loopw [10] (fun i wr => DSRel l (.slice A2 n c) w i wr) (fun i _ => n - (intOf i).toNat)
  case atStart => exact ⟨0, L0, Nat.zero_le _, rfl, HD.out⟩
  case round =>
    obtain ⟨k, L, hk, rfl, hf⟩ := hrel
    have HF := Lib.hid hf
    have hka : k ≤ n := by rw [← HN.out]; exact hk
    have hLn : L.length = n := by rw [← HN.out, ← hf.fst, List.length_map]
    have HLN := Lib.hid hLn
    clear hf hk HD
    by_cases hlt : k < n
    · obtain ⟨q, hq⟩ : ∃ q, L[k]? = some q := ⟨_, List.getElem?_eq_getElem (by omega)⟩
      have HQ := Lib.hid hq
      obtain ⟨G, rfl⟩ : ∃ G, A2 = some ⟨G, 0, none⟩ := by
        rcases HF.out.own.2 with ⟨_, h0⟩ | ⟨g', c', cur, h, _⟩
        · omega
        · cases h; exact ⟨_, rfl⟩
      have ho := HF.out.own
      rw [hLn] at ho
      have g0 := flatS_get L k q 0 hq (by omega)
      have g1 := flatS_get L k q 1 hq (by omega)
      have g2 := flatS_get L k q 2 hq (by omega)
      have g3 := flatS_get L k q 3 hq (by omega)
      obtain ⟨B, bc, hqv, hca, hcn, hcc, hcm⟩ := HF.out.restW k q (Nat.le_refl _) hq
      obtain ⟨C, dc, hqw, hda, hdn, hdc, hdm⟩ := HF.out.restN k q (Nat.le_refl _) hq
      have e0 := (ho.cellAt (k * 4) (by omega)).trans g0
      have e1 := (ho.cellAt (k * 4 + 1) (by omega)).trans g1
      have e2 := (ho.cellAt (k * 4 + 2) (by omega)).trans g2
      have e3 := (ho.cellAt (k * 4 + 3) (by omega)).trans g3
      simp only [scL, List.getElem?_cons_zero, List.getElem?_cons_succ] at e0 e1 e2 e3
      rw [hqv] at e2
      rw [hqw] at e3
      have hml : q.1 ∈ l := by rw [← HF.out.fst]; exact List.mem_map.2 ⟨q, List.mem_of_getElem? hq, rfl⟩
      have hbo : ∀ o, Below wr.heap.size wr (wr.alloc o) := fun o => (Below.refl _ _).alloc (Nat.le_refl _) o
      have HCC : Hid (∀ o, Calls Tryd.prog 51 #[.slice B q.1.ws.length bc] (wr.alloc o) (CRPostW q.1.ws (wr.alloc o))) := fun o => crowsW_any B bc q.1.ws _ ((hca.kept HF.out.below).kept (hbo o)) hcn hcc (by have := (HCL.out _ hml).1; omega)
      have HCD : Hid (∀ W, Below w.heap.size w W → Calls Tryd.prog 52 #[.slice C q.1.ns.length dc] W (CRPostN q.1.ns W)) := fun W b => crowsN_any C dc q.1.ns _ (hda.kept b) hdn hdc (by have := (HCL.out _ hml).2; omega)
      have HBO := Lib.hid hbo
      obtain ⟨ax, hax⟩ : ∃ ax : Addr, (⟨G, 0, none⟩ : Addr) = ax := ⟨_, rfl⟩
      have HAX := Lib.hid hax
      have had : ∀ j, ax.add j = ⟨G, j, none⟩ := fun j => by rw [← hax]; exact add_at G j
      have c1 : wr.cell? (ax.add (k * 4)) = some (.int .i64 q.1.id) := by rw [had]; exact e0
      have c2 : wr.cell? ⟨(ax.add (k * 4)).block, (ax.add (k * 4)).off + 1, none⟩ = some (.int .i64 q.1.fr) := by rw [had]; exact e1
      have c3 : wr.cell? ⟨(ax.add (k * 4)).block, (ax.add (k * 4)).off + 2, none⟩ = some (.slice B q.1.ws.length bc) := by rw [had]; exact e2
      have c4 : wr.cell? ⟨(ax.add (k * 4)).block, (ax.add (k * 4)).off + 3, none⟩ = some (.slice C q.1.ns.length dc) := by rw [had]; exact e3
      have HAD := Lib.hid had
      rw [hax]
      obtain ⟨LC, hLC⟩ : ∃ LC, q.1.ws.length = LC := ⟨_, rfl⟩
      obtain ⟨LD, hLD⟩ : ∃ LD, q.1.ns.length = LD := ⟨_, rfl⟩
      have HLC := Lib.hid hLC
      have HLD := Lib.hid hLD
      rw [hLC] at c3 HCC
      rw [hLD] at c4 HCD
      have hki : (0 : Int) ≤ k := by omega
      have hkb : (k : Int) < n := by omega
      clear hq ho g0 g1 g2 g3 e0 e1 e2 e3 hqv hqw hca hcn hcc hcm hda hdn hdc hdm hml hbo hax had hLC hLD hLn
      go_wp2_with fail
      refine (HCC.out _).mono ?_
      rintro e w2 ⟨V2, rfl, ho2, hb2⟩
      have hbw := (HBO.out _).trans (hb2.mono (HBO.out _).size)
      have HS := Lib.hid (HF.out.stepW HLN.out.symm HQ.out hbw (row_base ho2 (HBO.out _).size))
      have hxb := (hb2.block _ (by simp)).trans (heap_alloc_new wr _)
      obtain ⟨A3, cc3, rfl⟩ : ∃ A3 c3, V2 = .slice A3 LC c3 := by
        rcases ho2.2 with ⟨rfl, h0⟩ | ⟨g', c', cur, rfl, _⟩
        · exact ⟨none, 0, by rw [← HLC.out, h0]⟩
        · exact ⟨_, _, by rw [HLC.out]⟩
      have c5 := (hbw.cell (Go.block_lt_of_cell c3)).trans c3
      have hoG := HF.out.own
      rw [HLN.out] at hoG
      have hoG2 := row_below hoG hbw
      have z5 : w2.frozen? ⟨(ax.add (k * 4)).block, (ax.add (k * 4)).off + 2, none⟩ = false := by
        rw [HAD.out]
        exact hoG2.frozenAt (k * 4 + 2)
      have hGx : G ≠ wr.heap.size := by have := (hoG.lt G rfl).2; omega
      have HS2 : Hid (DS (k + 1) k l (L.set k (q.1, .slice A3 LC cc3, q.2.2)) (.slice (some ax) n c) w (w2.setCell ⟨(ax.add (k * 4)).block, (ax.add (k * 4)).off + 2, none⟩ (.slice A3 LC cc3))) := by
        show DS _ _ _ _ _ _ _
        rw [HAD.out, ← HAX.out]
        exact HS.out
      have x3 : (w2.setCell ⟨(ax.add (k * 4)).block, (ax.add (k * 4)).off + 2, none⟩ (.slice A3 LC cc3)).heap[wr.heap.size]? = some (.cells #[.int .i64 q.1.id, .int .i64 q.1.fr, .slice B LC bc, .slice C LD dc] 51 (0, 0)) := by
        rw [HAD.out]
        exact (heap_setCell_other w2 _ _ _ (by show wr.heap.size ≠ G; omega)).trans hxb
      clear hb2 ho2 hbw c1 c2 c3 c4 HS HCC hxb hoG hoG2 hGx
      go_upto_region 6 with fail
      obtain ⟨W3, hW3⟩ : ∃ W, w2.setCell ⟨(ax.add (k * 4)).block, (ax.add (k * 4)).off + 2, none⟩ (.slice A3 LC cc3) = W := ⟨_, rfl⟩
      rw [hW3] at HS2 x3
      rw [hW3]
      have x3c : W3.cell? ⟨wr.heap.size, 3, none⟩ = some (.slice C LD dc) := by rw [cell_of_row _ _ _ _ _ _ x3]; rfl
      have HLS : Hid ((L.set k (q.1, .slice A3 LC cc3, q.2.2)).length = n ∧ (L.set k (q.1, .slice A3 LC cc3, q.2.2))[k]? = some (q.1, .slice A3 LC cc3, q.2.2)) := ⟨by rw [List.length_set, HLN.out], List.getElem?_set_self (by rw [HLN.out]; exact hlt)⟩
      clear hW3 x3 c5 z5
      go_wp2_with fail
      refine (HCD.out _ HS2.out.below).mono ?_
      rintro e w4 ⟨V4, rfl, ho4, hb4⟩
      have hs2 := HS2.out
      rw [← HAX.out] at hs2
      have ht := hs2.stepN HLS.out.1.symm HLS.out.2 hb4 ho4
      obtain ⟨A4, cc4, rfl⟩ : ∃ A3 c3, V4 = .slice A3 LD c3 := by
        rcases ho4.2 with ⟨rfl, h0⟩ | ⟨g', c', cur, rfl, _⟩
        · exact ⟨none, 0, by rw [← HLD.out, h0]⟩
        · exact ⟨_, _, by rw [HLD.out]⟩
      have hoG := hs2.own
      rw [HLS.out.1] at hoG
      have hoG2 := row_below hoG hb4
      have c7 : w4.cell? ⟨(ax.add (k * 4)).block, (ax.add (k * 4)).off + 3, none⟩ = some q.2.2 := by
        rw [HAD.out]
        exact (hoG2.cellAt (k * 4 + 3) (by omega)).trans (flatS_get _ k (q.1, .slice A3 LC cc3, q.2.2) 3 HLS.out.2 (by omega))
      have z7 : w4.frozen? ⟨(ax.add (k * 4)).block, (ax.add (k * 4)).off + 3, none⟩ = false := by
        rw [HAD.out]
        exact hoG2.frozenAt (k * 4 + 3)
      have HS4 : Hid (DS (k + 1) (k + 1) l ((L.set k (q.1, .slice A3 LC cc3, q.2.2)).set k (q.1, .slice A3 LC cc3, .slice A4 LD cc4)) (.slice (some ax) n c) w (w4.setCell ⟨(ax.add (k * 4)).block, (ax.add (k * 4)).off + 3, none⟩ (.slice A4 LD cc4))) := by
        show DS _ _ _ _ _ _ _
        rw [HAD.out, ← HAX.out]
        exact ht
      clear hs2 ht ho4 hb4 hoG hoG2 HS2 HCD x3c
      go_wp2
      go_roundw
      case rel => exact ⟨k + 1, _, by rw [HN.out]; omega, by go_num, by first | exact HS4.out | (rw [HAX.out]; exact HS4.out)⟩
      case measure => simp [intOf]; omega
    · obtain rfl : k = n := by omega
      go_wp2
      go_ret
      exact ⟨_, L, rfl, by rw [HLN.out]; exact HF.out⟩
end Go.Proofs.YtbcjkongcnpdlaaDoor.Scd

namespace Go.Proofs.YtbcjkongcnpdlaaDoor.Scd

open Go.RowKit Go.PlainAid Go.Proofs.YtbcjkongcnpdlaaDoor.Oct Go.Proofs.YtbcjkongcnpdlaaDoor.Flt Go.Proofs.YtbcjkongcnpdlaaDoor.Rdr Go.Proofs.YtbcjkongcnpdlaaDoor.Act

open Go.Proofs.YtbcjkongcnpdlaaDoor.Prt (allEq allEq_no allEq_yes allEq_len)

set_option linter.unusedVariables false

set_option linter.unusedSimpArgs false

set_option maxRecDepth 8000 in
set_option maxHeartbeats 12000000 in
theorem same09g_any (A B : Option Addr) (ca cb : Nat) (l m : List SC) (w : World) (h1 : ScdAt w A l) (h2 : ScdAt w B m) (hl : l.length ≤ maxLen) (hlm : m.length ≤ maxLen) :
    Calls Tryd.prog 14 #[.slice A l.length ca, .slice B m.length cb] w fun e w' => e = .returned (.bool (allEq eqS l m)) ∧ ∃ n, w' = w.drewN n := by
  unfold maxLen at hl hlm
  obtain ⟨a, ha⟩ : ∃ a, l.length = a := ⟨_, rfl⟩
  obtain ⟨b, hb⟩ : ∃ b, m.length = b := ⟨_, rfl⟩
  have HA := Lib.hid ha
  have HB := Lib.hid hb
  rw [ha] at hl
  rw [hb] at hlm
  rw [ha, hb]
  by_cases hab : a = b
  rotate_left
  · have tnq : ((a : Int) != (b : Int)) = true := by simp; omega
    have HE : Hid (allEq eqS l m = false) := allEq_len eqS l m (by rw [ha, hb]; exact hab)
    clear h1 h2 ha hb hab
    go_enter Tryd.func14, Tryd.ntmps14
    go_wp2
    go_ret
    exact ⟨by show Ending.returned (.bool false) = _; rw [HE.out], 0, rfl⟩
  subst hab
  have H1 := Lib.hid h1
  have H2 := Lib.hid h2
  clear h1 h2 ha hb hlm
  have tne : ∀ z : Int, (z != z) = false := fun z => by simp
  go_enter Tryd.func14, Tryd.ntmps14
  go_wp2
  go_loopw [5] (fun i wr => ∃ k n : Nat, k ≤ a ∧ i = .int .i64 k ∧ wr = w.drewN n ∧ ∀ (j : Nat) (x y : SC), j < k → l[j]? = some x → m[j]? = some y → eqS x y = true) (fun i _ => a - (intOf i).toNat)
  case atStart => exact ⟨0, 0, Nat.zero_le _, rfl, rfl, fun j x y h => absurd h (by omega)⟩
  case round =>
    obtain ⟨k, n, hk, rfl, hw, hall⟩ := hrel
    have HW := Lib.hid hw
    have HALL := Lib.hid hall
    clear hall
    by_cases hlt : k < a
    · obtain ⟨x, hx⟩ : ∃ x, l[k]? = some x := ⟨_, List.getElem?_eq_getElem (by rw [HA.out]; exact hlt)⟩
      obtain ⟨z, hz⟩ : ∃ z, m[k]? = some z := ⟨_, List.getElem?_eq_getElem (by rw [HB.out]; exact hlt)⟩
      have HX := Lib.hid hx
      have HZ := Lib.hid hz
      obtain ⟨ax, B1, b1, C1, g1, rfl, c1, c2, c3, c4, h5, _, w1, w2, h8, _, w3, w4⟩ := H1.out k x hx
      obtain ⟨ay, B2, b2, C2, g2, rfl, d1, d2, d3, d4, k5, _, w5, w6, k8, _, w7, w8⟩ := H2.out k z hz
      obtain ⟨LW, hLW⟩ : ∃ n, x.ws.length = n := ⟨_, rfl⟩
      obtain ⟨LN, hLN⟩ : ∃ n, x.ns.length = n := ⟨_, rfl⟩
      obtain ⟨MW, hMW⟩ : ∃ n, z.ws.length = n := ⟨_, rfl⟩
      obtain ⟨MN, hMN⟩ : ∃ n, z.ns.length = n := ⟨_, rfl⟩
      have HLW := Lib.hid hLW
      have HLN := Lib.hid hLN
      have HMW := Lib.hid hMW
      have HMN := Lib.hid hMN
      rw [hLW] at c3
      rw [hLN] at c4
      rw [hMW] at d3
      rw [hMN] at d4
      have hMWm : MW ≤ 9223372036854775807 := by unfold maxLen at *; omega
      have hMNm : MN ≤ 9223372036854775807 := by unfold maxLen at *; omega
      have hLWm : LW ≤ 9223372036854775807 := by unfold maxLen at *; omega
      have hLNm : LN ≤ 9223372036854775807 := by unfold maxLen at *; omega
      have HW1 := Lib.hid h5
      have HW2 := Lib.hid k5
      have HN1 := Lib.hid h8
      have HN2 := Lib.hid k8
      have HC1 : Hid (∀ W : World, (∃ m, W = w.drewN m) → W.cell? (ax.add (k * 4)) = some (.int .i64 x.id) ∧ W.cell? ⟨(ax.add (k * 4)).block, (ax.add (k * 4)).off + 1, none⟩ = some (.int .i64 x.fr) ∧ W.cell? ⟨(ax.add (k * 4)).block, (ax.add (k * 4)).off + 2, none⟩ = some (.slice B1 LW b1) ∧ W.cell? ⟨(ax.add (k * 4)).block, (ax.add (k * 4)).off + 3, none⟩ = some (.slice C1 LN g1)) := fun W h => by
        obtain ⟨m, rfl⟩ := h; exact ⟨c1, c2, c3, c4⟩
      have HC2 : Hid (∀ W : World, (∃ m, W = w.drewN m) → W.cell? (ay.add (k * 4)) = some (.int .i64 z.id) ∧ W.cell? ⟨(ay.add (k * 4)).block, (ay.add (k * 4)).off + 1, none⟩ = some (.int .i64 z.fr) ∧ W.cell? ⟨(ay.add (k * 4)).block, (ay.add (k * 4)).off + 2, none⟩ = some (.slice B2 MW b2) ∧ W.cell? ⟨(ay.add (k * 4)).block, (ay.add (k * 4)).off + 3, none⟩ = some (.slice C2 MN g2)) := fun W h => by
        obtain ⟨m, rfl⟩ := h; exact ⟨d1, d2, d3, d4⟩
      have c1' := (HC1.out wr ⟨n, hw⟩).1
      have c2' := (HC1.out wr ⟨n, hw⟩).2.1
      have c3' := (HC1.out wr ⟨n, hw⟩).2.2.1
      have c4' := (HC1.out wr ⟨n, hw⟩).2.2.2
      have d1' := (HC2.out wr ⟨n, hw⟩).1
      have d2' := (HC2.out wr ⟨n, hw⟩).2.1
      have d3' := (HC2.out wr ⟨n, hw⟩).2.2.1
      have d4' := (HC2.out wr ⟨n, hw⟩).2.2.2
      have HWR : Hid (∃ m, wr = w.drewN m) := ⟨n, hw⟩
      have hki : (0 : Int) ≤ k := by omega
      have hka : (k : Int) < a := by omega
      clear hw hx hz hMW hMN c1 c2 c3 c4 d1 d2 d3 d4 h5 h8 k5 k8 w1 w2 w3 w4 w5 w6 w7 w8 H1 H2 hLW hLN
      cases q1 : (x.id == z.id) with
      | false =>
        have t1 : (x.id != z.id) = true := by unfold bne; rw [q1]; rfl
        have HE : Hid (eqS x z = false) := by show _ = _; unfold eqS; rw [q1]; rfl
        clear q1
        go_wp2
        go_quiet (fail)
        go_wp2
        go_ret
        exact ⟨by show Ending.returned (.bool false) = _; rw [allEq_no eqS l m k _ _ HX.out HZ.out HE.out], n + nq, by rw [HW.out, World.drewN_drewN]⟩
      | true =>
      have t1 : (x.id != z.id) = false := by unfold bne; rw [q1]; rfl
      have Q1 := Lib.hid q1
      clear q1
      cases q2 : (x.fr == z.fr) with
      | false =>
        have t2 : (x.fr != z.fr) = true := by unfold bne; rw [q2]; rfl
        have HE : Hid (eqS x z = false) := by show _ = _; unfold eqS; rw [q2]; simp
        clear q2
        go_wp2
        go_quiet (fail)
        go_wp2
        go_ret
        exact ⟨by show Ending.returned (.bool false) = _; rw [allEq_no eqS l m k _ _ HX.out HZ.out HE.out], n + nq, by rw [HW.out, World.drewN_drewN]⟩
      | true =>
      have t2 : (x.fr != z.fr) = false := by unfold bne; rw [q2]; rfl
      have Q2 := Lib.hid q2
      clear q2
      by_cases q3 : LW = MW
      rotate_left
      · have t3 : ((LW : Int) != (MW : Int)) = true := by simp; omega
        have HE : Hid (eqS x z = false) := by show _ = _; unfold eqS; rw [allEq_len eqA x.ws z.ws (by rw [HLW.out, HMW.out]; exact q3)]; simp
        clear q3
        go_wp2
        go_quiet (fail)
        go_wp2
        go_ret
        exact ⟨by show Ending.returned (.bool false) = _; rw [allEq_no eqS l m k _ _ HX.out HZ.out HE.out], n + nq, by rw [HW.out, World.drewN_drewN]⟩
      subst q3
      by_cases q4 : LN = MN
      rotate_left
      · have t4 : ((LN : Int) != (MN : Int)) = true := by simp; omega
        have HE : Hid (eqS x z = false) := by show _ = _; unfold eqS; rw [allEq_len eqA x.ns z.ns (by rw [HLN.out, HMN.out]; exact q4)]; simp
        clear q4
        go_wp2
        go_quiet (fail)
        go_wp2
        go_ret
        exact ⟨by show Ending.returned (.bool false) = _; rw [allEq_no eqS l m k _ _ HX.out HZ.out HE.out], n + nq, by rw [HW.out, World.drewN_drewN]⟩
      subst q4
      go_wp2
      go_quiet (fail)
      clear c1' c2' c3' c4' d1' d2' d3' d4'
      go_wp2
      obtain ⟨wo6, rfl⟩ : ∃ wo, wo = wr := ⟨wr, rfl⟩
      go_loopw [6] (fun i wr => ∃ j m' : Nat, j ≤ LW ∧ i = .int .i64 j ∧ wr = w.drewN m' ∧ ∀ (i' : Nat) (u v : A3), i' < j → x.ws[i']? = some u → z.ws[i']? = some v → eqA u v = true) (fun i _ => LW - (intOf i).toNat)
      case atStart =>
        obtain ⟨m', hm⟩ := HWR.out
        exact ⟨0, _, Nat.zero_le _, rfl, (by first | exact hm | (rw [hm, World.drewN_drewN])), fun i' u v h => absurd h (by omega)⟩
      case round =>
        obtain ⟨j, m', hj, rfl, hwr, hja⟩ := hrel
        have HJA := Lib.hid hja
        clear hja
        have HWR6 := Lib.hid hwr
        have c1 := (HC1.out wr ⟨m', hwr⟩).1
        have c2 := (HC1.out wr ⟨m', hwr⟩).2.1
        have c3 := (HC1.out wr ⟨m', hwr⟩).2.2.1
        have c4 := (HC1.out wr ⟨m', hwr⟩).2.2.2
        have d1 := (HC2.out wr ⟨m', hwr⟩).1
        have d2 := (HC2.out wr ⟨m', hwr⟩).2.1
        have d3 := (HC2.out wr ⟨m', hwr⟩).2.2.1
        have d4 := (HC2.out wr ⟨m', hwr⟩).2.2.2
        clear hwr
        by_cases hlj : j < LW
        · obtain ⟨y, hy⟩ : ∃ y, x.ws[j]? = some y := ⟨_, List.getElem?_eq_getElem (by rw [HLW.out]; exact hlj)⟩
          obtain ⟨v, hv⟩ : ∃ v, z.ws[j]? = some v := ⟨_, List.getElem?_eq_getElem (by rw [HMW.out]; exact hlj)⟩
          have HY := Lib.hid hy
          have HVV := Lib.hid hv
          obtain ⟨a1, hA1, p1, p2, p3⟩ := HW1.out j y hy
          obtain ⟨a2, hA2, r1, r2, r3⟩ := HW2.out j v hv
          have p1' : wr.cell? (a1.add (j * 3)) = some (.int .i64 y.s) := by rw [HWR6.out]; exact p1
          have p2' : wr.cell? ⟨(a1.add (j * 3)).block, (a1.add (j * 3)).off + 1, none⟩ = some (.int .i64 y.p) := by rw [HWR6.out]; exact p2
          have p3' : wr.cell? ⟨(a1.add (j * 3)).block, (a1.add (j * 3)).off + 2, none⟩ = some (.int .i64 y.a) := by rw [HWR6.out]; exact p3
          have rr1' : wr.cell? (a2.add (j * 3)) = some (.int .i64 v.s) := by rw [HWR6.out]; exact r1
          have rr2' : wr.cell? ⟨(a2.add (j * 3)).block, (a2.add (j * 3)).off + 1, none⟩ = some (.int .i64 v.p) := by rw [HWR6.out]; exact r2
          have rr3' : wr.cell? ⟨(a2.add (j * 3)).block, (a2.add (j * 3)).off + 2, none⟩ = some (.int .i64 v.a) := by rw [HWR6.out]; exact r3
          have heq5 : ∀ wx : World, (Op.equalIn 10000 59 (.agg #[.int .i64 y.s, .int .i64 y.p, .int .i64 y.a]) (.agg #[.int .i64 v.s, .int .i64 v.p, .int .i64 v.a])).run Tryd.prog wx = .ok (eqA y v) wx := fun wx => eq3W _ _ _ _ _ _ wx
          have hji : (0 : Int) ≤ j := by omega
          have hjb : (j : Int) < LW := by omega
          subst hA1
          subst hA2
          clear p1 p2 p3 r1 r2 r3 hy hv
          cases qq : eqA y v with
          | false =>
            rw [qq] at heq5
            have HE : Hid (eqS x z = false) := by show _ = _; unfold eqS; rw [allEq_no eqA x.ws z.ws j _ _ HY.out HVV.out qq]; simp
            clear qq
            go_wp2
            go_quiet (fail)
            go_wp2
            go_ret
            exact ⟨by show Ending.returned (.bool false) = _; rw [allEq_no eqS l m k _ _ HX.out HZ.out HE.out], m' + nq, by rw [HWR6.out, World.drewN_drewN]⟩
          | true =>
          rw [qq] at heq5
          have HQQ := Lib.hid qq
          clear qq
          go_wp2
          go_quiet (fail)
          go_wp2
          go_roundw
          case rel => exact ⟨j + 1, m' + nq, by omega, by go_num, by rw [HWR6.out, World.drewN_drewN], fun i' u v' hi' h3 h4 => by
            rcases (show i' < j ∨ i' = j by omega) with h | rfl
            · exact HJA.out i' u v' h h3 h4
            · obtain rfl := Option.some.inj (HY.out.symm.trans h3)
              obtain rfl := Option.some.inj (HVV.out.symm.trans h4)
              exact HQQ.out⟩
          case measure => simp [intOf]; omega
        · have tj : decide ((j : Int) < (LW : Int)) = false := decide_eq_false (by omega)
          have tjn : decide (j < LW) = false := decide_eq_false hlj
          have HWR := Lib.hid (show ∃ m, wr = w.drewN m from ⟨_, HWR6.out⟩)
          have HEW : Hid (allEq eqA x.ws z.ws = true) := allEq_yes eqA x.ws z.ws (by rw [HLW.out, HMW.out]) (fun i u v h3 h4 => HJA.out i u v (by have := (List.getElem?_eq_some_iff.1 h3).1; rw [HLW.out] at this; omega) h3 h4)
          clear HJA
          go_wp2
          clear c1 c2 c3 c4 d1 d2 d3 d4
          obtain ⟨wo7, rfl⟩ : ∃ wo, wo = wr := ⟨wr, rfl⟩
          go_loopw [7] (fun i wr => ∃ j m' : Nat, j ≤ LN ∧ i = .int .i64 j ∧ wr = w.drewN m' ∧ ∀ (i' : Nat) (u v : A3), i' < j → x.ns[i']? = some u → z.ns[i']? = some v → eqA u v = true) (fun i _ => LN - (intOf i).toNat)
          case atStart =>
            obtain ⟨m', hm⟩ := HWR.out
            exact ⟨0, _, Nat.zero_le _, rfl, (by first | exact hm | (rw [hm, World.drewN_drewN])), fun i' u v h => absurd h (by omega)⟩
          case round =>
            obtain ⟨j, m', hj, rfl, hwr, hja⟩ := hrel
            have HJA := Lib.hid hja
            clear hja
            have HWR7 := Lib.hid hwr
            have c1 := (HC1.out wr ⟨m', hwr⟩).1
            have c2 := (HC1.out wr ⟨m', hwr⟩).2.1
            have c3 := (HC1.out wr ⟨m', hwr⟩).2.2.1
            have c4 := (HC1.out wr ⟨m', hwr⟩).2.2.2
            have d1 := (HC2.out wr ⟨m', hwr⟩).1
            have d2 := (HC2.out wr ⟨m', hwr⟩).2.1
            have d3 := (HC2.out wr ⟨m', hwr⟩).2.2.1
            have d4 := (HC2.out wr ⟨m', hwr⟩).2.2.2
            clear hwr
            by_cases hlj : j < LN
            · obtain ⟨y, hy⟩ : ∃ y, x.ns[j]? = some y := ⟨_, List.getElem?_eq_getElem (by rw [HLN.out]; exact hlj)⟩
              obtain ⟨v, hv⟩ : ∃ v, z.ns[j]? = some v := ⟨_, List.getElem?_eq_getElem (by rw [HMN.out]; exact hlj)⟩
              have HY := Lib.hid hy
              have HVV := Lib.hid hv
              obtain ⟨a1, hA1, p1, p2, p3⟩ := HN1.out j y hy
              obtain ⟨a2, hA2, r1, r2, r3⟩ := HN2.out j v hv
              have p1' : wr.cell? (a1.add (j * 3)) = some (.int .i64 y.s) := by rw [HWR7.out]; exact p1
              have p2' : wr.cell? ⟨(a1.add (j * 3)).block, (a1.add (j * 3)).off + 1, none⟩ = some (.int .i64 y.p) := by rw [HWR7.out]; exact p2
              have p3' : wr.cell? ⟨(a1.add (j * 3)).block, (a1.add (j * 3)).off + 2, none⟩ = some (.int .i64 y.a) := by rw [HWR7.out]; exact p3
              have rr1' : wr.cell? (a2.add (j * 3)) = some (.int .i64 v.s) := by rw [HWR7.out]; exact r1
              have rr2' : wr.cell? ⟨(a2.add (j * 3)).block, (a2.add (j * 3)).off + 1, none⟩ = some (.int .i64 v.p) := by rw [HWR7.out]; exact r2
              have rr3' : wr.cell? ⟨(a2.add (j * 3)).block, (a2.add (j * 3)).off + 2, none⟩ = some (.int .i64 v.a) := by rw [HWR7.out]; exact r3
              have heq5 : ∀ wx : World, (Op.equalIn 10000 68 (.agg #[.int .i64 y.s, .int .i64 y.p, .int .i64 y.a]) (.agg #[.int .i64 v.s, .int .i64 v.p, .int .i64 v.a])).run Tryd.prog wx = .ok (eqA y v) wx := fun wx => eq3N _ _ _ _ _ _ wx
              have hji : (0 : Int) ≤ j := by omega
              have hjb : (j : Int) < LN := by omega
              subst hA1
              subst hA2
              clear p1 p2 p3 r1 r2 r3 hy hv
              cases qq : eqA y v with
              | false =>
                rw [qq] at heq5
                have HE : Hid (eqS x z = false) := by show _ = _; unfold eqS; rw [allEq_no eqA x.ns z.ns j _ _ HY.out HVV.out qq]; simp
                clear qq
                go_wp2
                go_quiet (fail)
                go_wp2
                go_ret
                exact ⟨by show Ending.returned (.bool false) = _; rw [allEq_no eqS l m k _ _ HX.out HZ.out HE.out], m' + nq, by rw [HWR7.out, World.drewN_drewN]⟩
              | true =>
              rw [qq] at heq5
              have HQQ := Lib.hid qq
              clear qq
              go_wp2
              go_quiet (fail)
              go_wp2
              go_roundw
              case rel => exact ⟨j + 1, m' + nq, by omega, by go_num, by rw [HWR7.out, World.drewN_drewN], fun i' u v' hi' h3 h4 => by
                rcases (show i' < j ∨ i' = j by omega) with h | rfl
                · exact HJA.out i' u v' h h3 h4
                · obtain rfl := Option.some.inj (HY.out.symm.trans h3)
                  obtain rfl := Option.some.inj (HVV.out.symm.trans h4)
                  exact HQQ.out⟩
              case measure => simp [intOf]; omega
            · have tj : decide ((j : Int) < (LN : Int)) = false := decide_eq_false (by omega)
              have tjn : decide (j < LN) = false := decide_eq_false hlj
              have HEN : Hid (allEq eqA x.ns z.ns = true) := allEq_yes eqA x.ns z.ns (by rw [HLN.out, HMN.out]) (fun i u v h3 h4 => HJA.out i u v (by have := (List.getElem?_eq_some_iff.1 h3).1; rw [HLN.out] at this; omega) h3 h4)
              go_wp2
              go_roundw
              case rel => exact ⟨k + 1, m', by omega, by go_num, HWR7.out, fun j' x' z' hj' h3 h4 => by
                rcases (show j' < k ∨ j' = k by omega) with h | rfl
                · exact HALL.out j' x' z' h h3 h4
                · obtain rfl := Option.some.inj (HX.out.symm.trans h3)
                  obtain rfl := Option.some.inj (HZ.out.symm.trans h4)
                  unfold eqS
                  rw [Q1.out, Q2.out, HEW.out, HEN.out]
                  rfl⟩
              case measure => simp [intOf]; omega
    · obtain rfl : k = a := by omega
      clear hw
      go_wp2
      go_ret
      exact ⟨by show Ending.returned (.bool true) = _; rw [allEq_yes eqS l m (by rw [HA.out, HB.out]) (fun i x y h3 h4 => HALL.out i x y (by have := (List.getElem?_eq_some_iff.1 h3).1; rw [HA.out] at this; omega) h3 h4)], n, HW.out⟩
end Go.Proofs.YtbcjkongcnpdlaaDoor.Scd
