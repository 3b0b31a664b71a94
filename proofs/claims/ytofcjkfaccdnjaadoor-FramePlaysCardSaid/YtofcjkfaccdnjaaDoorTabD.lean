
/- Tables: runs are joined (table.join), a schedule whose windows are right is cut in runs (table.cut). Condition: 1 to 1,048,576 ticks, at most 1,000 windows. Tables: a schedule whose windows are right in runs (table.cut), and what table.New hands back. Conditions: 1 to 1,048,576 ticks, at most 1,000 windows; the variables hold what the program lays there. -/

import Derived.Test.YtofcjkfaccdnjaaDoorTabB

import Derived.Test.YtofcjkfaccdnjaaDoorWinL

import Derived.Deep.Onto

import Derived.Test.YtofcjkfaccdnjaaDoorWinD

import Derived.Test.YtofcjkfaccdnjaaDoorWinF

namespace Go.Proofs.YtofcjkfaccdnjaaDoor.Tab

open Go.RowKit Go.PlainAid Go.Proofs.YtofcjkfaccdnjaaDoor.Oct Go.Proofs.YtofcjkfaccdnjaaDoor.Flt Go.Proofs.YtofcjkfaccdnjaaDoor.Rdr Go.Proofs.YtofcjkfaccdnjaaDoor.Args Go.Proofs.YtofcjkfaccdnjaaDoor.Win

open Go.Proofs.YtofcjkfaccdnjaaDoor.Act (A3 actL flatA flatA_snoc flatA_get flatA_len ActsAt I64 Wide)

set_option linter.unusedVariables false

set_option linter.unusedSimpArgs false

theorem flat_app (l m : List A3) : flatA (l ++ m) = flatA l ++ flatA m := by simp [flatA]
theorem flat_grow (L : List A3) (y : A3) (v : Int) : (flatA (L ++ [y])).set (L.length * 3 + 2) (.int .i64 v) = flatA (L ++ [⟨y.s, y.p, v⟩]) := by
  rw [flat_app, flat_app, List.set_append_right _ _ (by rw [flatA_len]; omega), flatA_len, Nat.add_sub_cancel_left]
  rfl
theorem own_form {w : World} {B e size n : Nat} {V : Value} {xs : List Value} (h : w.ownsRow B e size V n xs) : ∃ A c, V = .slice A n c := by
  rcases h.2 with ⟨rfl, rfl⟩ | ⟨g, cap, cur, rfl, _⟩
  · exact ⟨_, _, rfl⟩
  · exact ⟨_, _, rfl⟩
def Small (L : List A3) : Prop := ∀ y ∈ L, 0 ≤ y.a ∧ y.a ≤ 1048576
theorem grown_trans {a b c : World} {row : Option Nat} (h : a.grownBy b row) (k : b.grownBy c row) : a.grownBy c row :=
  ⟨k.os.trans h.os, k.tape.trans h.tape, k.output.trans h.output, Nat.le_trans h.size k.size, fun i hi hne => (k.block i (Nat.lt_of_lt_of_le hi h.size) hne).trans (h.block i hi hne)⟩
theorem grown_drewN (w : World) (n : Nat) (row : Option Nat) : w.grownBy (w.drewN n) row := ⟨rfl, rfl, rfl, Nat.le_refl _, fun _ _ _ => rfl⟩
theorem grown_drew (w : World) (row : Option Nat) : w.grownBy w.drew row := ⟨rfl, rfl, rfl, Nat.le_refl _, fun _ _ _ => rfl⟩
set_option maxRecDepth 8000 in
set_option maxHeartbeats 3200000 in
theorem join_any (B : Nat) (V : Value) (L : List A3) (r : A3) (w : World) (ho : w.ownsRow B 98 3 V L.length (flatA L)) (hB : B ≤ w.heap.size) (hs : Small L) (hr : 0 ≤ r.a ∧ r.a ≤ 1048576) (hl : L.length ≤ 1099511627776) :
    Calls Tryd.prog 60 #[V, .agg (winC r)] w fun e w' => ∃ V', e = .returned V' ∧ w'.ownsRow B 98 3 V' (joinR L r).length (flatA (joinR L r)) ∧ w.grownBy w' V.ownBlock := by
  obtain ⟨i0, hi, hz0, hz1, hz2⟩ := info_parts infoR
  have hb1 : Below B w (w.alloc (.cells (winC r) 98)) := (Below.refl _ _).alloc hB _
  have hx1 := heap_alloc_new w (.cells (winC r) 98)
  have ho1 : (w.alloc (.cells (winC r) 98)).ownsRow B 98 3 V L.length (flatA L) := ho.alloc _
  obtain ⟨s, p, a⟩ := r
  unfold winC at hb1 hx1 ho1 ⊢
  dsimp only at hb1 hx1 ho1 hr ⊢
  obtain ⟨W, hW⟩ : ∃ W, w.alloc (.cells #[.int .i64 s, .int .i64 p, .int .i64 a] 98) = W := ⟨_, rfl⟩
  have HWE := Lib.hid hW
  have hgw : ∀ row, w.grownBy W row := fun row => by rw [← hW]; exact World.grownBy_alloc _ _ _
  have HGW := Lib.hid hgw
  rw [hW] at hb1 hx1 ho1
  have c0 := cell_of_row _ _ 0 _ _ _ hx1
  have c1 := cell_of_row _ _ 1 _ _ _ hx1
  have c2 := cell_of_row _ _ 2 _ _ _ hx1
  simp only [List.getElem?_toArray, List.getElem?_cons_zero, List.getElem?_cons_succ] at c0 c1 c2
  have HBW : Hid (B ≤ W.heap.size) := Nat.le_trans hB hb1.size
  by_cases ha : a = 0
  · have hj : joinR L ⟨s, p, a⟩ = L := join_zero _ _ ha
    rw [hj]
    have HO := Lib.hid ho1
    subst ha
    clear ho hs hr hl hx1 ho1 hb1 hj hB hgw
    obtain ⟨A, c, rfl⟩ := own_form HO.out
    obtain ⟨n, hn⟩ : ∃ n, L.length = n := ⟨_, rfl⟩
    rw [hn] at HO
    rw [hn]
    clear hn
    go_enter Tryd.func60, Tryd.ntmps60
    go_upto_region 1 with fail
    try rw [HWE.out]
    go_wp2
    go_ret
    exact ⟨_, rfl, HO.out, HGW.out _⟩
  · have hab : (a == 0) = false := by simp [ha]
    rcases snoc_cases L with rfl | ⟨L', y, rfl⟩
    · rw [join_nil ⟨s, p, a⟩ ha]
      have HO : Hid (W.ownsRow B 98 3 V 0 []) := ho1
      obtain ⟨A, c, rfl⟩ := own_form HO.out
      clear ho hs hr hl ho1 hb1 hB ha hgw
      go_enter Tryd.func60, Tryd.ntmps60
      go_upto_region 1 with fail
      try rw [HWE.out]
      go_wp2
      go_quiet (fail)
      have HO2 : Hid ((W.drewN nq).ownsRow B 98 3 (.slice A 0 c) 0 []) := owns_kept HO.out ⟨rfl, rfl, rfl, Nat.le_refl _, fun _ _ => rfl⟩
      have HB2 : Hid (∀ row, w.grownBy (W.drewN nq) row) := fun row => grown_trans (HGW.out row) (grown_drewN _ _ _)
      have e0 : (W.drewN nq).cell? ⟨w.heap.size, 0, none⟩ = some (.int .i64 s) := c0
      have e1 : (W.drewN nq).cell? ⟨w.heap.size, 1, none⟩ = some (.int .i64 p) := c1
      have e2 : (W.drewN nq).cell? ⟨w.heap.size, 2, none⟩ = some (.int .i64 a) := c2
      have HBQ : B ≤ (W.drewN nq).heap.size := HBW.out
      obtain ⟨W2, hW2⟩ : ∃ X, W.drewN nq = X := ⟨_, rfl⟩
      rw [hW2] at HO2 HB2 e0 e1 e2 HBQ
      rw [hW2]
      clear hW2 c0 c1 c2 HO HGW hx1 hW
      have hrow := heap_alloc_new W2 (.cells #[.int .i64 s, .int .i64 p, .int .i64 a] 98)
      have HBW2 : Hid (B ≤ W2.heap.size) := HBQ
      have HR : Hid ((W2.alloc (.cells #[.int .i64 s, .int .i64 p, .int .i64 a] 98)).ownsRow B 98 3 (.slice A 0 c) 0 []) := HO2.out.alloc _
      have HBA : Hid (∀ row, w.grownBy (W2.alloc (.cells #[.int .i64 s, .int .i64 p, .int .i64 a] 98)) row) := fun row => grown_trans (HB2.out row) (World.grownBy_alloc _ _ _)
      go_wp2_with (at_builtin; refine wpList_append_own _ rfl _ _ 88 rfl _ 98 i0 (.agg #[.int .i64 0, .int .i64 0, .int .i64 0]) 3 24 Tryd.underlying88 hi hz0 hz1 hz2 rfl (by decide) _ _ _ rfl HR.out ⟨W2.heap.size, 0, none⟩ 1 1 [.int .i64 s, .int .i64 p, .int .i64 a] rfl rfl ?c1 ?c2 ?c3 ?c4 ?c5 ?_)
      case c1 =>
        intro j u hj
        have e : (Addr.mk W2.heap.size 0 none).add j = ⟨W2.heap.size, j, none⟩ := by cases j <;> simp [Addr.add]
        rw [e, cell_of_row _ _ _ _ _ _ hrow, ← hj]
        simp
      case c2 => intro u hu; simp at hu; rcases hu with rfl | rfl | rfl <;> rfl
      case c3 => unfold maxLen; omega
      case c4 => omega
      case c5 => have := HBW2.out; simp; omega
      intro V4 W4 ho4 hg4 _
      have HO4 := Lib.hid ho4
      have HB4 := Lib.hid (grown_trans (HBA.out _) hg4)
      clear ho4 hg4
      go_wp2
      go_ret
      exact ⟨_, rfl, HO4.out, HB4.out⟩
    · rw [join_snoc L' y ⟨s, p, a⟩ ha]
      dsimp only
      obtain ⟨m, hm⟩ : ∃ m, L'.length = m := ⟨_, rfl⟩
      have hlen : (L' ++ [y]).length = m + 1 := by rw [List.length_append, hm]; rfl
      rw [hlen] at ho1 hl
      obtain ⟨g, c, rfl⟩ := ownsRow_succ ho1
      have hgy : ∀ r, r < 3 → (flatA (L' ++ [y]))[m * 3 + r]? = (actL y)[r]? := fun r hr => flatA_get (L' ++ [y]) m y r (by rw [← hm]; simp) hr
      have d0 : W.cell? ⟨g, m * 3, none⟩ = some (.int .i64 y.s) := (ho1.cellAt (m * 3) (by omega)).trans (hgy 0 (by omega))
      have d2 : W.cell? ⟨g, m * 3 + 2, none⟩ = some (.int .i64 y.a) := (ho1.cellAt (m * 3 + 2) (by omega)).trans (hgy 2 (by omega))
      have f2 := ho1.frozenAt (m * 3 + 2)
      have hya := hs y (by simp)
      have hwa : IntKind.i64.wrap (y.a + a) = y.a + a := IntWalk.i64_in _ (by omega)
      have hwm : IntKind.i64.wrap (((m + 1 : Nat) : Int) - 1) = (m : Int) := by rw [show ((m + 1 : Nat) : Int) - 1 = (m : Int) by omega]; exact IntWalk.i64_in _ (by omega)
      obtain ⟨n, hn⟩ : ∃ n, m + 1 = n := ⟨_, rfl⟩
      have HO : Hid (W.ownsRow B 98 3 (.slice (some ⟨g, 0, none⟩) n c) n (flatA (L' ++ [y]))) := by show World.ownsRow _ _ _ _ _ _ _; rw [← hn]; exact ho1
      rw [hn] at hwm hl
      rw [show (m + 1 : Nat) = n from hn]
      have hm0 : (0 : Int) ≤ m := by omega
      have hmn : (m : Int) < n := by omega
      have hn0 : (0 : Int) < n := by omega
      have tn0 : decide ((0 : Int) < (n : Int)) = true := decide_eq_true hn0
      have hn1 : 0 < n := by omega
      have HM : Hid (L'.length = m ∧ m + 1 = n) := ⟨hm, hn⟩
      have hXg : ¬ w.heap.size = g := by
        intro e
        have hgl := ho.lt g rfl
        omega
      by_cases hys : y.s = s
      · rw [if_pos hys]
        have hyb : (y.s == s) = true := by simp [hys]
        have hst := HO.out.stored (m * 3 + 2) (.int .i64 (y.a + a))
        rw [← hm, flat_grow L' y (y.a + a)] at hst
        rw [hm] at hst
        obtain ⟨ys, hyse⟩ : ∃ v, y.s = v := ⟨_, rfl⟩
        obtain ⟨ya, hyae⟩ : ∃ v, y.a = v := ⟨_, rfl⟩
        rw [hyse] at d0 hyb
        rw [hyae] at d2 hwa hst
        rw [hyae]
        have HST := Lib.hid hst
        have HGT := Lib.hid (HO.out.lt g rfl)
        clear ho hs hr hl ho1 hb1 hB ha hgw hgy hlen hm hn hys hya hst hyse hyae
        go_enter Tryd.func60, Tryd.ntmps60
        go_upto_region 1 with fail
        try rw [HWE.out]
        go_wp2
        go_quiet (fail)
        have e2 : (W.drewN nq).cell? ⟨w.heap.size, 2, none⟩ = some (.int .i64 a) := c2
        have e3 : (W.drewN nq).cell? ⟨g, m * 3 + 2, none⟩ = some (.int .i64 ya) := d2
        have e4 : (W.drewN nq).frozen? ⟨g, m * 3 + 2, none⟩ = false := f2
        have HO2 : Hid ((W.drewN nq).ownsRow B 98 3 (.slice (some ⟨g, 0, none⟩) n c) n (flatA (L' ++ [y]))) := owns_kept HO.out ⟨rfl, rfl, rfl, Nat.le_refl _, fun _ _ => rfl⟩
        have HB2 : Hid (∀ row, w.grownBy (W.drewN nq) row) := fun row => grown_trans (HGW.out row) (grown_drewN _ _ _)
        have HBS : B ≤ (W.drewN nq).heap.size := HBW.out
        obtain ⟨W2, hW2⟩ : ∃ X, W.drewN nq = X := ⟨_, rfl⟩
        rw [hW2] at HO2 HB2 e2 e3 e4 HBS
        rw [hW2]
        clear hW2 c0 c1 c2 d0 d2 f2 HO HGW hx1 hW HST
        go_wp2
        go_region
        all_goals
          have hst := HO2.out.stored (m * 3 + 2) (.int .i64 (ya + a))
          have hfg := flat_grow L' y (ya + a)
          rw [HM.out.1] at hfg
          rw [hfg] at hst
          have HO3 := Lib.hid hst.1.drew
          have HB3 := Lib.hid (grown_trans (grown_trans (HB2.out _) hst.2) (grown_drew _ _))
          obtain ⟨W3, hW3⟩ : ∃ X, (W2.setCell ⟨g, m * 3 + 2, none⟩ (.int .i64 (ya + a))).drew = X := ⟨_, rfl⟩
          rw [hW3] at HO3 HB3
          rw [hW3]
          clear hst hfg hW3 e2 e3 e4 HO2 HB2
          go_wp2
          go_ret
          exact ⟨_, rfl, by
            have e : (L' ++ [(⟨y.s, y.p, ya + a⟩ : A3)]).length = n := by simp [HM.out.1]; exact HM.out.2
            rw [e]
            exact HO3.out, HB3.out⟩
      · rw [if_neg hys]
        have hyb : (y.s == s) = false := by simp [hys]
        obtain ⟨ys, hyse⟩ : ∃ v, y.s = v := ⟨_, rfl⟩
        rw [hyse] at d0 hyb
        have HNL : Hid (n ≤ 1099511627776) := hl
        clear ho hs hr hl ho1 hb1 hB ha hgw hgy hlen hm hn hys hya d2 f2 hwa hyse
        go_enter Tryd.func60, Tryd.ntmps60
        go_upto_region 1 with fail
        try rw [HWE.out]
        go_wp2
        go_quiet (fail)
        have HO2 : Hid ((W.drewN nq).ownsRow B 98 3 (.slice (some ⟨g, 0, none⟩) n c) n (flatA (L' ++ [y]))) := owns_kept HO.out ⟨rfl, rfl, rfl, Nat.le_refl _, fun _ _ => rfl⟩
        have HB2 : Hid (∀ row, w.grownBy (W.drewN nq) row) := fun row => grown_trans (HGW.out row) (grown_drewN _ _ _)
        have e0 : (W.drewN nq).cell? ⟨w.heap.size, 0, none⟩ = some (.int .i64 s) := c0
        have e1 : (W.drewN nq).cell? ⟨w.heap.size, 1, none⟩ = some (.int .i64 p) := c1
        have e2 : (W.drewN nq).cell? ⟨w.heap.size, 2, none⟩ = some (.int .i64 a) := c2
        have HBQ : B ≤ (W.drewN nq).heap.size := HBW.out
        obtain ⟨W2, hW2⟩ : ∃ X, W.drewN nq = X := ⟨_, rfl⟩
        rw [hW2] at HO2 HB2 e0 e1 e2 HBQ
        rw [hW2]
        clear hW2 c0 c1 c2 d0 HO HGW hx1 hW
        have hrow := heap_alloc_new W2 (.cells #[.int .i64 s, .int .i64 p, .int .i64 a] 98)
        have HBW2 : Hid (B ≤ W2.heap.size) := HBQ
        have HR : Hid ((W2.alloc (.cells #[.int .i64 s, .int .i64 p, .int .i64 a] 98)).ownsRow B 98 3 (.slice (some ⟨g, 0, none⟩) n c) n (flatA (L' ++ [y]))) := HO2.out.alloc _
        have HBA : Hid (∀ row, w.grownBy (W2.alloc (.cells #[.int .i64 s, .int .i64 p, .int .i64 a] 98)) row) := fun row => grown_trans (HB2.out row) (World.grownBy_alloc _ _ _)
        go_wp2_with (at_builtin; refine wpList_append_own _ rfl _ _ 88 rfl _ 98 i0 (.agg #[.int .i64 0, .int .i64 0, .int .i64 0]) 3 24 Tryd.underlying88 hi hz0 hz1 hz2 rfl (by decide) _ _ _ rfl HR.out ⟨W2.heap.size, 0, none⟩ 1 1 [.int .i64 s, .int .i64 p, .int .i64 a] rfl rfl ?c1 ?c2 ?c3 ?c4 ?c5 ?_)
        case c1 =>
          intro j u hj
          have e : (Addr.mk W2.heap.size 0 none).add j = ⟨W2.heap.size, j, none⟩ := by cases j <;> simp [Addr.add]
          rw [e, cell_of_row _ _ _ _ _ _ hrow, ← hj]
          simp
        case c2 => intro u hu; simp at hu; rcases hu with rfl | rfl | rfl <;> rfl
        case c3 => have := HNL.out; unfold maxLen; omega
        case c4 => have := HNL.out; omega
        case c5 => have := HBW2.out; simp; omega
        intro V4 W4 ho4 hg4 _
        have HO4 := Lib.hid ho4
        have HB4 := Lib.hid (grown_trans (HBA.out _) hg4)
        clear ho4 hg4
        go_wp2
        go_ret
        exact ⟨_, rfl, by
            have h := HO4.out
            rw [show [Value.int .i64 s, .int .i64 p, .int .i64 a] = flatA [⟨s, p, a⟩] from rfl, ← flat_app] at h
            have e : (L' ++ [y] ++ [(⟨s, p, a⟩ : A3)]).length = n + 1 := by simp [HM.out.1]; have := HM.out.2; omega
            rw [e]
            exact h, HB4.out⟩
/-- The runs of the first windows, and of the gap behind them. -/
theorem cut_pre {fr : Int} (g : Int → Int) : ∀ (l : List A3) (k j : Nat), Chain fr (k : Int) l → (k : Int) ≤ fr → (∀ t, (k : Int) ≤ t → g t = ownT fr l t) → j ≤ l.length →
    ∃ e : Nat, (l.take j).foldl stepC (runsD g k, (k : Int)) = (runsD g e, (e : Int)) ∧ (e : Int) ≤ fr ∧ ∀ x, l[j]? = some x → (e : Int) ≤ x.p ∧ joinR (runsD g e) ⟨-1, (e : Int), x.p - (e : Int)⟩ = runsD g x.p.toNat
  | [], k, j, hc, hk, hg, hj => by
    obtain rfl : j = 0 := by simpa using hj
    exact ⟨k, rfl, hk, fun x hx => by simp at hx⟩
  | x :: l, k, 0, hc, hk, hg, hj => by
    obtain ⟨h1, h2, h3, h4⟩ := hc.1
    refine ⟨k, rfl, hk, fun y hy => ?_⟩
    obtain rfl : x = y := by simpa using hy
    obtain ⟨p, hp⟩ : ∃ p : Nat, x.p = ((k + p : Nat) : Int) := ⟨x.p.toNat - k, by omega⟩
    refine ⟨h1, ?_⟩
    have e1 : runsD g (k + p) = joinR (runsD g k) ⟨-1, (k : Int), (p : Int)⟩ := runs_more g k (-1) p fun j hj => (hg _ (by omega)).trans (by
        rw [ownT, has_right h3 h4, decide_eq_false (show ¬ x.p ≤ ((k + j : Nat) : Int) by omega), own_before l _ hc.2 (by omega)]
        rfl)
    rw [show x.p.toNat = k + p by omega, e1]
    congr 2
    omega
  | x :: l, k, j + 1, hc, hk, hg, hj => by
    obtain ⟨h1, h2, h3, h4⟩ := hc.1
    obtain ⟨p, hp⟩ : ∃ p : Nat, x.p = ((k + p : Nat) : Int) := ⟨x.p.toNat - k, by omega⟩
    obtain ⟨a, ha⟩ : ∃ a : Nat, x.a = (a : Int) := ⟨x.a.toNat, by omega⟩
    have e1 : joinR (runsD g k) ⟨-1, (k : Int), x.p - (k : Int)⟩ = runsD g (k + p) := by
      rw [runs_more g k (-1) p fun j hj => (hg _ (by omega)).trans (by
        rw [ownT, has_right h3 h4, decide_eq_false (show ¬ x.p ≤ ((k + j : Nat) : Int) by omega), own_before l _ hc.2 (by omega)]
        rfl)]
      congr 2
      omega
    have e2 : joinR (runsD g (k + p)) ⟨x.s, x.p, x.a⟩ = runsD g (k + p + a) := by
      rw [runs_more g (k + p) x.s a fun j hj => (hg _ (by omega)).trans (by
        rw [ownT, has_right h3 h4, decide_eq_true (show x.p ≤ ((k + p + j : Nat) : Int) by omega), decide_eq_true (show ((k + p + j : Nat) : Int) < x.p + x.a by omega)]
        rfl), hp, ha]
    have es : stepC (runsD g k, (k : Int)) x = (runsD g (k + p + a), ((k + p + a : Nat) : Int)) := by
      show (joinR (joinR (runsD g k) ⟨-1, (k : Int), x.p - (k : Int)⟩) ⟨x.s, x.p, x.a⟩, x.p + x.a) = _
      rw [e1, e2]
      congr 1
      omega
    have ih := cut_pre g l (k + p + a) j (by
      have h := hc.2
      rw [show x.p + x.a = ((k + p + a : Nat) : Int) by omega] at h
      exact h) (by omega) (fun t ht => by rw [hg t (by omega), own_skip x l h3 h4 (by omega)]) (by simpa using hj)
    rw [List.take_succ_cons, List.foldl_cons, es, List.getElem?_cons_succ]
    exact ih
theorem runs_small (g : Int → Int) (k : Nat) (hk : k ≤ 1048576) : Small (runsD g k) := by
  intro y hy
  obtain ⟨i, hi, rfl⟩ := List.mem_iff_getElem.1 hy
  have hx : (runsD g k)[i]? = some (runsD g k)[i] := List.getElem?_eq_getElem hi
  have hgr := gr_runs g k
  obtain ⟨p1, p2, _⟩ := hgr.at_ i _ hx
  have e : sumA ((runsD g k).take (i + 1)) = sumA ((runsD g k).take i) + (runsD g k)[i].a := by rw [List.take_add_one, hx]; exact sumA_snoc _ _
  have h1 := sum_mono hgr (runsD g k).length (i + 1) (by omega) (Nat.le_refl _)
  have h0 := sum_mono hgr i 0 (Nat.zero_le _) (by omega)
  rw [List.take_length, hgr.sum] at h1
  simp only [List.take_zero, sumA] at h0
  omega
end Go.Proofs.YtofcjkfaccdnjaaDoor.Tab

namespace Go.Proofs.YtofcjkfaccdnjaaDoor.Tab

open Go.RowKit Go.PlainAid Go.Proofs.YtofcjkfaccdnjaaDoor.Oct Go.Proofs.YtofcjkfaccdnjaaDoor.Flt Go.Proofs.YtofcjkfaccdnjaaDoor.Rdr Go.Proofs.YtofcjkfaccdnjaaDoor.Args Go.Proofs.YtofcjkfaccdnjaaDoor.Win

open Go.Proofs.YtofcjkfaccdnjaaDoor.Act (A3 actL flatA flatA_snoc flatA_get flatA_len ActsAt I64 Wide)

set_option linter.unusedVariables false

set_option linter.unusedSimpArgs false

/-- Between the windows: the schedule's box, the runs so far. -/
structure CU (xs : Array Value) (f : Int → Int) (e : Nat) (V : Value) (w wr : World) : Prop where
  box : wr.heap[w.heap.size]? = some (.cells xs 37 (0, 0))
  own : wr.ownsRow (w.heap.size + 1) 98 3 V (runsD f e).length (flatA (runsD f e))
  below : Below w.heap.size w wr
theorem CU.keep {xs : Array Value} {f : Int → Int} {e : Nat} {V : Value} {w wr w' : World} (h : CU xs f e V w wr) (k : Below wr.heap.size wr w') : CU xs f e V w w' :=
  ⟨(k.block _ (lt_of_block h.box)).trans h.box, owns_kept h.own k, h.below.trans (k.mono h.below.size)⟩
theorem CU.next {xs : Array Value} {f : Int → Int} {e e' : Nat} {V V' : Value} {w wr w' : World} (h : CU xs f e V w wr) (hg : wr.grownBy w' V.ownBlock) (ho : w'.ownsRow (w.heap.size + 1) 98 3 V' (runsD f e').length (flatA (runsD f e'))) : CU xs f e' V' w w' :=
  ⟨(hg.block _ (lt_of_block h.box) (fun q => by have := (h.own.lt _ q.symm).1; omega)).trans h.box, ho, h.below.grown hg h.below.size (fun k hk => by have := (h.own.lt k hk).1; omega)⟩
def CuRel (xs : Array Value) (f : Int → Int) (l : List A3) (fr : Int) (w : World) (i v en : Value) (wr : World) : Prop :=
  ∃ (k e : Nat) (A : Option Addr) (n c : Nat), k ≤ l.length ∧ i = .int .i64 (k : Int) ∧ v = .slice A n c ∧ en = .int .i64 (e : Int) ∧ (e : Int) ≤ fr ∧ (l.take k).foldl stepC ([], 0) = (runsD f e, (e : Int)) ∧ CU xs f e v w wr
set_option maxRecDepth 8000 in
set_option maxHeartbeats 6400000 in
theorem tcut_any (id : Int) (fr : Nat) (P : Option Addr) (pc : Nat) (l : List A3) (C : Option Addr) (nn cc : Nat) (w : World) (h1 : ActsAt w P l) (hc : Chain (fr : Int) 0 l) (hf : 1 ≤ fr ∧ fr ≤ 1048576) (hl : l.length ≤ 1000) :
    Calls Tryd.prog 50 #[.agg #[.int .i64 id, .int .i64 (fr : Int), .slice P l.length pc, .slice C nn cc]] w fun e w' => ∃ V, e = .returned V ∧ w'.ownsRow (w.heap.size + 1) 98 3 V (runsD (ownT (fr : Int) l) fr).length (flatA (runsD (ownT (fr : Int) l) fr)) ∧ Below w.heap.size w w' := by
  obtain ⟨a, ha⟩ : ∃ a, l.length = a := ⟨_, rfl⟩
  have HA := Lib.hid ha
  rw [ha] at hl
  rw [ha]
  have H1 := Lib.hid h1
  have HF : Hid (1 ≤ fr ∧ fr ≤ 1048576) := hf
  have HL : Hid (a ≤ 1000) := hl
  have HCH := Lib.hid hc
  have hall := cut_all hc
  have HALL := Lib.hid hall
  have HPRE := Lib.hid (fun (j : Nat) (hj : j ≤ l.length) => cut_pre (fr := (fr : Int)) (ownT (fr : Int) l) l 0 j (by simpa using hc) (by omega) (fun t _ => rfl) hj)
  obtain ⟨f, hfe⟩ : ∃ f, ownT (fr : Int) l = f := ⟨_, rfl⟩
  rw [hfe] at HPRE HALL
  rw [hfe]
  have HSM := Lib.hid (fun (e : Nat) (he : e ≤ 1048576) => runs_small f e he)
  have HRL := Lib.hid (runs_len f)
  have hb0 : Below w.heap.size w (w.alloc (.cells #[.int .i64 id, .int .i64 (fr : Int), .slice P a pc, .slice C nn cc] 37)) := (Below.refl _ _).alloc (Nat.le_refl _) _
  have HC0 : Hid (CU #[.int .i64 id, .int .i64 (fr : Int), .slice P a pc, .slice C nn cc] f 0 (.slice none 0 0) w (w.alloc (.cells #[.int .i64 id, .int .i64 (fr : Int), .slice P a pc, .slice C nn cc] 37))) := ⟨heap_alloc_new _ _, World.ownsRow_nil _ _ _ _, hb0⟩
  clear ha h1 hf hl hc hall hfe hb0
  go_enter Tryd.func50, Tryd.ntmps50
  go_wp2_with fail
  go_loopw [10, 3, 4] (fun i v en wr => CuRel #[.int .i64 id, .int .i64 (fr : Int), .slice P a pc, .slice C nn cc] f l (fr : Int) w i v en wr) (fun i _ _ _ => a - (intOf i).toNat)
  case atStart => exact ⟨0, 0, none, 0, 0, Nat.zero_le _, rfl, rfl, rfl, by omega, rfl, HC0.out⟩
  case round =>
    obtain ⟨k, e, A, n, c, hk, rfl, rfl, rfl, hef, hfo, hcu⟩ := hrel
    have HFO := Lib.hid hfo
    have HCU := Lib.hid hcu
    have hka : k ≤ a := by rw [← HA.out]; exact hk
    have HEF : Hid ((e : Int) ≤ fr) := hef
    clear hk hfo hcu HC0 hef
    by_cases hlt : k < a
    · obtain ⟨x, hx⟩ : ∃ x, l[k]? = some x := ⟨_, List.getElem?_eq_getElem (by rw [HA.out]; exact hlt)⟩
      obtain ⟨ax, rfl, c1, c2, c3⟩ := (H1.out.kept HCU.out.below) k x hx
      obtain ⟨q1, q2, q3, q4⟩ := chain_ge l 0 k x HCH.out hx
      obtain ⟨e', hf1, he1, hgap⟩ := HPRE.out k (by rw [HA.out]; exact hka)
      have hf0 := HFO.out
      have hee : e' = e := by
        have h := hf1
        rw [show (runsD f 0, ((0 : Nat) : Int)) = (([] : List A3), (0 : Int)) from rfl, hf0] at h
        have := congrArg Prod.snd h
        dsimp only at this
        omega
      subst hee
      obtain ⟨hep, hj1⟩ := hgap x hx
      obtain ⟨e2, hf2, he2, _⟩ := HPRE.out (k + 1) (by rw [HA.out]; exact hlt)
      have htk : l.take (k + 1) = l.take k ++ [x] := by rw [List.take_add_one, hx]; rfl
      rw [show (runsD f 0, ((0 : Nat) : Int)) = (([] : List A3), (0 : Int)) from rfl] at hf2
      have hst := hf2
      rw [htk, List.foldl_append, hf0] at hst
      have hj2 : joinR (runsD f x.p.toNat) ⟨x.s, x.p, x.a⟩ = runsD f e2 ∧ x.p + x.a = (e2 : Int) := by
        have h : stepC (runsD f e', (e' : Int)) x = (runsD f e2, (e2 : Int)) := hst
        unfold stepC at h
        dsimp only at h
        rw [hj1] at h
        exact ⟨congrArg Prod.fst h, congrArg Prod.snd h⟩
      have HJ1 := Lib.hid hj1
      have HJ2 := Lib.hid hj2
      have HF2 := Lib.hid hf2
      have HE2 : Hid ((e2 : Int) ≤ fr) := he2
      have hb5 : Below wr.heap.size wr (wr.alloc (.cells (winC x) 82)) := (Below.refl _ _).alloc (Nat.le_refl _) _
      have HC5 := Lib.hid (HCU.out.keep hb5)
      have HX5 := Lib.hid (heap_alloc_new wr (.cells (winC x) 82))
      have HXB := Lib.hid (HCU.out.own.lt)
      have hpn : ((x.p.toNat : Nat) : Int) = x.p := by omega
      have HPN := Lib.hid hpn
      have hf := HF.out
      have HN1 : Hid ((runsD f e').length ≤ 1048576) := Nat.le_trans (HRL.out e') (by have := HEF.out; omega)
      have HN2 : Hid ((runsD f x.p.toNat).length ≤ 1048576) := Nat.le_trans (HRL.out _) (by omega)
      have HJA := Lib.hid (join_any (w.heap.size + 1) (.slice A n c) (runsD f e') ⟨-1, (e' : Int), x.p - (e' : Int)⟩ (wr.alloc (.cells (winC x) 82)) HC5.out.own (by have := lt_of_block HC5.out.box; omega) (HSM.out e' (by have := HEF.out; omega)) (by dsimp only; omega) (by have := HN1.out; omega))
      rw [HJ1.out] at HJA
      have HJB := Lib.hid (fun (V : Value) (W : World) (h : CU #[.int .i64 id, .int .i64 (fr : Int), .slice (some ax) a pc, .slice C nn cc] f x.p.toNat V w W) => join_any (w.heap.size + 1) V (runsD f x.p.toNat) ⟨x.s, x.p, x.a⟩ W h.own (by have := lt_of_block h.box; omega) (HSM.out _ (by omega)) (by dsimp only; omega) (by have := HN2.out; omega))
      rw [HJ2.out.1] at HJB
      have HPA := Lib.hid HJ2.out.2
      have hwg : IntKind.i64.wrap (x.p - (e' : Int)) = x.p - (e' : Int) := IntWalk.i64_in _ (by omega)
      have hwp : IntKind.i64.wrap (x.p + x.a) = x.p + x.a := IntWalk.i64_in _ (by omega)
      have hki : (0 : Int) ≤ k := by omega
      have hkb : (k : Int) < a := by omega
      have hk1 : IntKind.i64.wrap ((k : Int) + 1) = (k : Int) + 1 := IntWalk.i64_in _ (by have := HL.out; omega)
      obtain ⟨s1, p1, a1⟩ := x
      unfold winC at HC5 HX5 HJA HJB
      dsimp only at c1 c2 c3 HC5 HX5 HJA HJB hwg hwp HPA HPN
      obtain ⟨pn, hpne⟩ : ∃ m, p1.toNat = m := ⟨_, rfl⟩
      rw [hpne] at HJA HJB HPN
      clear hf1 he1 hgap hf0 hep hj1 hf2 he2 htk hst hj2 hb5 hpn hf q1 q2 q3 q4 hx hpne HCU HJ1 HJ2 HN1 HN2
      go_wp2_with fail
      refine HJA.out.mono ?_
      rintro e5 w6 ⟨V6, rfl, ho6, hg6⟩
      have HC6 := Lib.hid (HC5.out.next hg6 ho6)
      have HX6 := Lib.hid ((hg6.block wr.heap.size (by simp) (fun q => by have := (HXB.out _ q.symm).2; omega)).trans HX5.out)
      have x0 := cell_of_row _ _ 0 _ _ _ HX6.out
      have x1 := cell_of_row _ _ 1 _ _ _ HX6.out
      have x2 := cell_of_row _ _ 2 _ _ _ HX6.out
      simp only [List.getElem?_toArray, List.getElem?_cons_zero, List.getElem?_cons_succ] at x0 x1 x2
      have HX7 : Hid (∀ k', V6.ownBlock = some k' → k' ≠ wr.heap.size) := fun k' hk' e => by
        rcases ho6.2 with ⟨e1, _⟩ | ⟨gg, cap, cur, e1, _, hgc, _⟩
        · rw [e1] at hk'; cases hk'
        · rw [e1] at hk'
          have e2 : gg = k' := by simpa [Value.ownBlock] using hk'
          rw [e2, e, HX6.out] at hgc
          simp only [Option.some.injEq, Obj.cells.injEq] at hgc
          exact absurd hgc.2.1 (by decide)
      obtain ⟨A6, c6, hV6⟩ := own_form ho6
      subst hV6
      clear ho6 hg6 c1 c2 c3 HC5 HX5 HJA
      go_wp2_with fail
      refine (HJB.out _ _ HC6.out).mono ?_
      rintro e5 w7 ⟨V7, rfl, ho7, hg7⟩
      have HC7 := Lib.hid (HC6.out.next hg7 ho7)
      have HX8 := Lib.hid ((hg7.block wr.heap.size (lt_of_block HX6.out) (fun q => HX7.out _ q.symm rfl)).trans HX6.out)
      have z1 := cell_of_row _ _ 1 _ _ _ HX8.out
      have z2 := cell_of_row _ _ 2 _ _ _ HX8.out
      simp only [List.getElem?_toArray, List.getElem?_cons_zero, List.getElem?_cons_succ] at z1 z2
      obtain ⟨A7, c7, hV7⟩ := own_form ho7
      subst hV7
      clear ho7 hg7 x0 x1 x2 HC6 HX6 HX7 HX8 HJB
      go_wp2
      go_roundw
      case rel => exact ⟨k + 1, e2, A7, _, c7, by have := HA.out; omega, by go_num, rfl, by rw [HPA.out], HE2.out, HF2.out, HC7.out⟩
      case measure => simp [intOf]; omega
    · obtain rfl : k = a := by omega
      have hf0 := HFO.out
      rw [List.take_of_length_le (by rw [HA.out]; exact Nat.le_refl _)] at hf0
      have hal := HALL.out
      rw [hf0] at hal
      unfold cutR at hal
      dsimp only at hal
      have hf := HF.out
      have HJA := Lib.hid (join_any (w.heap.size + 1) (.slice A n c) (runsD f e) ⟨-1, (e : Int), (fr : Int) - (e : Int)⟩ wr HCU.out.own (by have := lt_of_block HCU.out.box; omega) (HSM.out e (by have := HEF.out; omega)) (by have := HEF.out; dsimp only; omega) (by have := HRL.out e; have := HEF.out; omega))
      rw [hal] at HJA
      have hef := HEF.out
      have hwf : IntKind.i64.wrap ((fr : Int) - (e : Int)) = (fr : Int) - (e : Int) := IntWalk.i64_in _ (by omega)
      have b1 := cell_of_row _ _ 1 _ _ _ HCU.out.box
      simp only [List.getElem?_toArray, List.getElem?_cons_zero, List.getElem?_cons_succ] at b1
      unfold winC at HJA
      dsimp only at HJA
      have HOL := Lib.hid HCU.out.own.lt
      have HBE := Lib.hid HCU.out.below
      clear hf0 hal hf hef HCU HFO HALL
      go_wp2_with fail
      refine HJA.out.mono ?_
      rintro e5 w6 ⟨V6, rfl, ho6, hg6⟩
      have HO6 := Lib.hid ho6
      have HB6 := Lib.hid (HBE.out.grown hg6 HBE.out.size (fun k hk => by have := (HOL.out k hk).1; omega))
      clear ho6 hg6
      go_wp2
      go_ret
      exact ⟨V6, rfl, HO6.out, HB6.out⟩
end Go.Proofs.YtofcjkfaccdnjaaDoor.Tab
