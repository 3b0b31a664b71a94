
/- Modes: what becomes of a partition that asks for a mode, or to which an action is done, by the program and by the document. No condition. -/

import Derived.Test.YtjdgpbjjhgfikaaProg

import Derived.WalkKit

import Derived.PlainAid

import Derived.Lib.Hide

import Derived.Deep.CutRange

import Derived.BigQuiet

import Derived.BigRegion

import Derived.Deep.RegionHeld3

namespace Go.Proofs.Ytjdgpbjjhgfikaa.Mod

open Go.RowKit Go.PlainAid

set_option linter.unusedVariables false

set_option linter.unusedSimpArgs false

/-- What asking tells: the code. -/
def askN (now want : Int) : Int := if want < 0 ∨ 3 < want then 3 else if now < 1 ∨ 3 < now then 5 else if now = 3 ∧ want = 3 then 1 else if now = 1 ∧ want = 2 then 5 else 0
/-- How a partition starts that comes to a mode. -/
def startN (m : Int) : Int := if m = 1 then 2 else if m = 2 then 1 else 0
def setM (now want : Int) : Int := if askN now want = 0 then want else now
def setS (now want : Int) : Int := if askN now want = 0 then startN want else 0
def actN (act : Int) : Int := if act < 0 ∨ 2 < act then 3 else 0
def actM (now act : Int) : Int := if now < 1 ∨ 3 < now then now else if act = 1 then 2 else if act = 2 then 1 else now
def actS (now act : Int) : Int := if now < 1 ∨ 3 < now then 0 else if act = 1 then 1 else if act = 2 then 2 else 0

theorem below_drew {B : Nat} {a w : World} (h : Below B a w) : Below B a w.drew := ⟨h.os, h.tape, h.output, h.size, h.block⟩
theorem right_yes (m : Int) (w : World) (h0 : 0 ≤ m) (h3 : m ≤ 3) :
    Calls Try.prog 63 #[.int .i64 m] w fun e w' => e = .returned (.bool true) ∧ w = w' := by
  have t0 : decide (0 ≤ m) = true := decide_eq_true h0
  have t1 : decide (m < 4) = true := decide_eq_true (by omega)
  clear h0 h3
  go_enter Try.func63, Try.ntmps63
  go_wp2
  go_ret
  exact ⟨rfl, rfl⟩
theorem right_no (m : Int) (w : World) (h : m < 0 ∨ 3 < m) :
    Calls Try.prog 63 #[.int .i64 m] w fun e w' => e = .returned (.bool false) ∧ w = w' := by
  rcases h with h | h
  · have t0 : decide (0 ≤ m) = false := decide_eq_false (by omega)
    clear h
    go_enter Try.func63, Try.ntmps63
    go_wp2
    go_ret
    exact ⟨rfl, rfl⟩
  · have t0 : decide (0 ≤ m) = true := decide_eq_true (by omega)
    have t1 : decide (m < 4) = false := decide_eq_false (by omega)
    clear h
    go_enter Try.func63, Try.ntmps63
    go_wp2
    go_ret
    exact ⟨rfl, rfl⟩
theorem runs_yes (m : Int) (w : World) (h0 : 1 ≤ m) (h3 : m ≤ 3) :
    Calls Try.prog 40 #[.int .i64 m] w fun e w' => e = .returned (.bool true) ∧ w = w' := by
  have t0 : (m != 0) = true := by simp; omega
  have h0' : 0 ≤ m := by omega
  have H := Lib.hid h0'
  have H3 := Lib.hid h3
  clear h0 h0' h3
  go_enter Try.func40, Try.ntmps40
  go_wp2_with fail
  refine (right_yes m _ H.out H3.out).mono ?_
  rintro e w' ⟨rfl, rfl⟩
  go_wp2
  go_ret
  exact ⟨rfl, rfl⟩
theorem runs_no (m : Int) (w : World) (h : m < 1 ∨ 3 < m) :
    Calls Try.prog 40 #[.int .i64 m] w fun e w' => e = .returned (.bool false) ∧ w = w' := by
  by_cases h1 : m < 0 ∨ 3 < m
  · have H := Lib.hid h1
    clear h h1
    go_enter Try.func40, Try.ntmps40
    go_wp2_with fail
    refine (right_no m _ H.out).mono ?_
    rintro e w' ⟨rfl, rfl⟩
    go_wp2
    go_ret
    exact ⟨rfl, rfl⟩
  · obtain rfl : m = 0 := by omega
    clear h h1
    go_enter Try.func40, Try.ntmps40
    go_wp2_with fail
    refine (right_yes 0 _ (by omega) (by omega)).mono ?_
    rintro e w' ⟨rfl, rfl⟩
    go_wp2
    go_ret
    exact ⟨rfl, rfl⟩
theorem start_any (m : Int) (w : World) :
    Calls Try.prog 76 #[.int .i64 m] w fun e w' => e = .returned (.int .i64 (startN m)) ∧ w = w' := by
  unfold startN
  by_cases h1 : m = 1
  · subst h1
    rw [if_pos rfl]
    go_enter Try.func76, Try.ntmps76
    go_wp2
    go_ret
    exact ⟨rfl, rfl⟩
  · rw [if_neg h1]
    by_cases h2 : m = 2
    · subst h2
      rw [if_pos rfl]
      clear h1
      go_enter Try.func76, Try.ntmps76
      go_wp2
      go_ret
      exact ⟨rfl, rfl⟩
    · rw [if_neg h2]
      have t1 : (m == 1) = false := by simp [h1]
      have t2 : (m == 2) = false := by simp [h2]
      clear h1 h2
      go_enter Try.func76, Try.ntmps76
      go_wp2
      go_ret
      exact ⟨rfl, rfl⟩
theorem size_ch : (Try.prog.info? 99).map (·.size) = some 3 := by kernel_rfl
theorem come_any (m : Int) (w : World) :
    Calls Try.prog 60 #[.int .i64 m] w fun e w' => e = .returned (.agg #[.int .i64 m, .int .i64 (startN m), .int .i64 0]) ∧ Below w.heap.size w w' := by
  go_enter Try.func60, Try.ntmps60
  go_wp2_with fail
  refine (start_any m _).mono ?_
  rintro e w' ⟨rfl, rfl⟩
  go_wp2
  refine bodyPost_ret (v := .agg #[.int .i64 m, .int .i64 (startN m), .int .i64 0]) (by simp [results, Try.results60, go_sem]) rfl ⟨rfl, ?_⟩
  exact (Below.refl _ _).alloc (Nat.le_refl _) _
theorem stay_any (m k : Int) (w : World) :
    Calls Try.prog 59 #[.int .i64 m, .int .i64 k] w fun e w' => e = .returned (.agg #[.int .i64 m, .int .i64 0, .int .i64 k]) ∧ Below w.heap.size w w' := by
  go_enter Try.func59, Try.ntmps59
  go_wp2
  refine bodyPost_ret (v := .agg #[.int .i64 m, .int .i64 0, .int .i64 k]) (by simp [results, Try.results59, go_sem]) rfl ⟨rfl, ?_⟩
  exact (Below.refl _ _).alloc (Nat.le_refl _) _
theorem asked_any (now want : Int) (w : World) :
    Calls Try.prog 58 #[.int .i64 now, .int .i64 want] w fun e w' => e = .returned (.int .i64 (askN now want)) ∧ w = w' := by
  unfold askN
  by_cases h1 : want < 0 ∨ 3 < want
  · rw [if_pos h1]
    have H := Lib.hid h1
    clear h1
    go_enter Try.func58, Try.ntmps58
    go_wp2_with fail
    refine (right_no want _ H.out).mono ?_
    rintro e w' ⟨rfl, rfl⟩
    go_wp2
    go_ret
    exact ⟨rfl, rfl⟩
  · rw [if_neg h1]
    have hw0 : 0 ≤ want := by omega
    have hw3 : want ≤ 3 := by omega
    have H0 := Lib.hid hw0
    have H3 := Lib.hid hw3
    clear h1 hw0 hw3
    by_cases h2 : now < 1 ∨ 3 < now
    · rw [if_pos h2]
      have H := Lib.hid h2
      clear h2
      go_enter Try.func58, Try.ntmps58
      go_wp2_with fail
      refine (right_yes want _ H0.out H3.out).mono ?_
      rintro e w' ⟨rfl, rfl⟩
      go_wp2_with fail
      refine (runs_no now _ H.out).mono ?_
      rintro e w' ⟨rfl, rfl⟩
      go_wp2
      go_ret
      exact ⟨rfl, rfl⟩
    · rw [if_neg h2]
      have h10 : 1 ≤ now := by omega
      have h13 : now ≤ 3 := by omega
      have K0 := Lib.hid h10
      have K3 := Lib.hid h13
      clear h10 h13 h2
      by_cases h3 : now = 3 ∧ want = 3
      · rw [if_pos h3]
        obtain ⟨rfl, rfl⟩ := h3
        go_enter Try.func58, Try.ntmps58
        go_wp2_with fail
        refine (right_yes 3 _ H0.out H3.out).mono ?_
        rintro e w' ⟨rfl, rfl⟩
        go_wp2_with fail
        refine (runs_yes 3 _ K0.out K3.out).mono ?_
        rintro e w' ⟨rfl, rfl⟩
        go_wp2
        go_ret
        exact ⟨rfl, rfl⟩
      · rw [if_neg h3]
        have hb3 : ((now == 3) && (want == 3)) = false := by
          simp
          intro h
          exact fun hh => h3 ⟨h, hh⟩
        by_cases h4 : now = 1 ∧ want = 2
        · rw [if_pos h4]
          obtain ⟨rfl, rfl⟩ := h4
          clear h3 hb3
          go_enter Try.func58, Try.ntmps58
          go_wp2_with fail
          refine (right_yes 2 _ H0.out H3.out).mono ?_
          rintro e w' ⟨rfl, rfl⟩
          go_wp2_with fail
          refine (runs_yes 1 _ K0.out K3.out).mono ?_
          rintro e w' ⟨rfl, rfl⟩
          go_wp2
          go_ret
          exact ⟨rfl, rfl⟩
        · rw [if_neg h4]
          have hs3 : (now == 3) = true → (want == 3) = false := by simp; exact fun h hh => h3 ⟨h, hh⟩
          have hs4 : (now == 1) = true → (want == 2) = false := by simp; exact fun h hh => h4 ⟨h, hh⟩
          have HS3 := Lib.hid hs3
          have HS4 := Lib.hid hs4
          clear h3 h4 hb3 hs3 hs4
          go_enter Try.func58, Try.ntmps58
          go_wp2_with fail
          refine (right_yes want _ H0.out H3.out).mono ?_
          rintro e w' ⟨rfl, rfl⟩
          go_wp2_with fail
          refine (runs_yes now _ K0.out K3.out).mono ?_
          rintro e w' ⟨rfl, rfl⟩
          cases hx3 : (now == 3) with
          | true =>
            have q := HS3.out hx3
            have q1 : (now == 1) = false := by simp at hx3; subst hx3; rfl
            go_wp2
            go_ret
            exact ⟨rfl, rfl⟩
          | false =>
            cases hx1 : (now == 1) with
            | true =>
              have q := HS4.out hx1
              go_wp2
              go_ret
              exact ⟨rfl, rfl⟩
            | false =>
              go_wp2
              go_ret
              exact ⟨rfl, rfl⟩
theorem one_ch (a b c : Int) : (#[Value.int .i64 a, Value.int .i64 b, Value.int .i64 c]).all (·.oneCell') = true := by simp [Value.oneCell']
theorem set_any (now want : Int) (w : World) :
    Calls Try.prog 36 #[.int .i64 now, .int .i64 want] w fun e w' => e = .returned (.agg #[.int .i64 (setM now want), .int .i64 (setS now want), .int .i64 (askN now want)]) ∧ Below w.heap.size w w' := by
  have hb1 : Below w.heap.size w (w.alloc (.cells #[.int .i64 0, .int .i64 0, .int .i64 0] 99)) := (Below.refl _ _).alloc (Nat.le_refl _) _
  have hx := heap_alloc_new w (.cells #[.int .i64 0, .int .i64 0, .int .i64 0] 99)
  obtain ⟨W0, hW0⟩ : ∃ W, w.alloc (.cells #[.int .i64 0, .int .i64 0, .int .i64 0] 99) = W := ⟨_, rfl⟩
  rw [hW0] at hb1 hx
  have HB := Lib.hid hb1
  have HX := Lib.hid hx
  have HW := Lib.hid hW0
  clear hb1 hx hW0
  by_cases h : askN now want = 0
  · have e1 : setM now want = want := by unfold setM; rw [if_pos h]
    have e2 : setS now want = startN want := by unfold setS; rw [if_pos h]
    rw [e1, e2, h]
    have H := Lib.hid h
    clear e1 e2 h
    go_enter Try.func36, Try.ntmps36
    go_upto_region 1 with fail
    rw [HW.out]
    go_wp2_with fail
    refine (asked_any now want _).mono ?_
    rintro e w' ⟨rfl, rfl⟩
    rw [H.out]
    go_wp2_with fail
    refine (come_any want _).mono ?_
    rintro e w1 ⟨rfl, hb2⟩
    have HX2 := Lib.hid ((hb2.block _ (lt_of_block HX.out)).trans HX.out)
    have HB2 := Lib.hid (HB.out.trans (hb2.mono HB.out.size))
    clear hb2
    go_wp2_with ((with_reducible show wpList _ _ _ _ _ _); refine wpList_store_row rfl 99 (.tmp 4) (.tmp 15) rfl w.heap.size #[.int .i64 want, .int .i64 (startN want), .int .i64 0] rfl rfl 99 #[.int .i64 0, .int .i64 0, .int .i64 0] HX2.out (by rw [size_ch]; rfl) rfl (one_ch _ _ _) ?_)
    refine bodyPost_ret (v := .agg #[.int .i64 want, .int .i64 (startN want), .int .i64 0]) (results_cell_row (by rfl) _ _ w.heap.size 99 _ (0, 0) _ rfl (setRow_heap _ _ _ _ _ _ HX2.out) Try.underlying99 rfl (by rw [size_ch]; rfl)) rfl ⟨rfl, ?_⟩
    exact HB2.out.trans ⟨rfl, rfl, rfl, by simp, fun b hb => setRow_other _ _ _ _ (by omega)⟩
  · have e1 : setM now want = now := by unfold setM; rw [if_neg h]
    have e2 : setS now want = 0 := by unfold setS; rw [if_neg h]
    rw [e1, e2]
    obtain ⟨k, hk⟩ : ∃ k, askN now want = k := ⟨_, rfl⟩
    rw [hk] at h
    rw [hk]
    have tk : (k != 0) = true := by simp [h]
    have H := Lib.hid hk
    clear e1 e2 h hk
    go_enter Try.func36, Try.ntmps36
    go_upto_region 1 with fail
    rw [HW.out]
    go_wp2_with fail
    refine (asked_any now want _).mono ?_
    rintro e w' ⟨rfl, rfl⟩
    rw [H.out]
    go_wp2_with fail
    refine (stay_any now k _).mono ?_
    rintro e w1 ⟨rfl, hb2⟩
    have HX2 := Lib.hid ((hb2.block _ (lt_of_block HX.out)).trans HX.out)
    have HB2 := Lib.hid (HB.out.trans (hb2.mono HB.out.size))
    clear hb2
    go_wp2_with ((with_reducible show wpList _ _ _ _ _ _); refine wpList_store_row rfl 99 (.tmp 4) (.tmp 13) rfl w.heap.size #[.int .i64 now, .int .i64 0, .int .i64 k] rfl rfl 99 #[.int .i64 0, .int .i64 0, .int .i64 0] HX2.out (by rw [size_ch]; rfl) rfl (one_ch _ _ _) ?_)
    refine bodyPost_ret (v := .agg #[.int .i64 now, .int .i64 0, .int .i64 k]) (results_cell_row (by rfl) _ _ w.heap.size 99 _ (0, 0) _ rfl (setRow_heap _ _ _ _ _ _ HX2.out) Try.underlying99 rfl (by rw [size_ch]; rfl)) rfl ⟨rfl, ?_⟩
    exact HB2.out.trans ⟨rfl, rfl, rfl, by simp, fun b hb => setRow_other _ _ _ _ (by omega)⟩
theorem is_yes (n : Int) (w : World) (h0 : 0 ≤ n) (h2 : n ≤ 2) :
    Calls Try.prog 86 #[.int .i64 n] w fun e w' => e = .returned (.bool true) ∧ w = w' := by
  have h : n = 0 ∨ n = 1 ∨ n = 2 := by omega
  rcases h with rfl | rfl | rfl
  all_goals
    clear h0 h2
    go_enter Try.func86, Try.ntmps86
    go_wp2
    go_ret
    exact ⟨rfl, rfl⟩
theorem is_no (n : Int) (w : World) (h : n < 0 ∨ 2 < n) :
    Calls Try.prog 86 #[.int .i64 n] w fun e w' => e = .returned (.bool false) ∧ w = w' := by
  have t0 : (n == 0) = false := by simp; omega
  have t1 : (n == 1) = false := by simp; omega
  have t2 : (n == 2) = false := by simp; omega
  clear h
  go_enter Try.func86, Try.ntmps86
  go_wp2
  go_ret
  exact ⟨rfl, rfl⟩
theorem act_any (now act : Int) (w : World) :
    Calls Try.prog 69 #[.int .i64 now, .int .i64 act] w fun e w' => e = .returned (.agg #[.int .i64 (if actN act = 0 then actM now act else now), .int .i64 (if actN act = 0 then actS now act else 0), .int .i64 (actN act)]) ∧ Below w.heap.size w w' := by
  have hb1 : Below w.heap.size w (w.alloc (.cells #[.int .i64 0, .int .i64 0, .int .i64 0] 99)) := (Below.refl _ _).alloc (Nat.le_refl _) _
  have hx := heap_alloc_new w (.cells #[.int .i64 0, .int .i64 0, .int .i64 0] 99)
  obtain ⟨W0, hW0⟩ : ∃ W, w.alloc (.cells #[.int .i64 0, .int .i64 0, .int .i64 0] 99) = W := ⟨_, rfl⟩
  rw [hW0] at hb1 hx
  have HB := Lib.hid hb1
  have HX := Lib.hid hx
  have HW := Lib.hid hW0
  clear hb1 hx hW0
  by_cases h : act < 0 ∨ 2 < act
  · have e1 : actN act = 3 := by unfold actN; rw [if_pos h]
    rw [e1, if_neg (by decide), if_neg (by decide)]
    have H := Lib.hid h
    clear e1 h
    go_enter Try.func69, Try.ntmps69
    go_upto_region 1 with fail
    rw [HW.out]
    go_wp2_with fail
    refine (is_no act _ H.out).mono ?_
    rintro e w' ⟨rfl, rfl⟩
    go_wp2_with fail
    refine (stay_any now 3 _).mono ?_
    rintro e w1 ⟨rfl, hb2⟩
    have HX2 := Lib.hid ((hb2.block _ (lt_of_block HX.out)).trans HX.out)
    have HB2 := Lib.hid (HB.out.trans (hb2.mono HB.out.size))
    clear hb2
    go_wp2_with ((with_reducible show wpList _ _ _ _ _ _); refine wpList_store_row rfl 99 (.tmp 4) (.tmp 10) rfl w.heap.size #[.int .i64 now, .int .i64 0, .int .i64 3] rfl rfl 99 #[.int .i64 0, .int .i64 0, .int .i64 0] HX2.out (by rw [size_ch]; rfl) rfl (one_ch _ _ _) ?_)
    refine bodyPost_ret (v := .agg #[.int .i64 now, .int .i64 0, .int .i64 3]) (results_cell_row (by rfl) _ _ w.heap.size 99 _ (0, 0) _ rfl (setRow_heap _ _ _ _ _ _ HX2.out) Try.underlying99 rfl (by rw [size_ch]; rfl)) rfl ⟨rfl, ?_⟩
    exact HB2.out.trans ⟨rfl, rfl, rfl, by simp, fun b hb => setRow_other _ _ _ _ (by omega)⟩
  · have e1 : actN act = 0 := by unfold actN; rw [if_neg h]
    rw [e1, if_pos rfl, if_pos rfl]
    have H0 : Hid (0 ≤ act) := by show _ ≤ _; omega
    have H2 : Hid (act ≤ 2) := by show _ ≤ _; omega
    have ha : act = 0 ∨ act = 1 ∨ act = 2 := by omega
    clear e1 h
    by_cases hr : now < 1 ∨ 3 < now
    · have e2 : actM now act = now := by unfold actM; rw [if_pos hr]
      have e3 : actS now act = 0 := by unfold actS; rw [if_pos hr]
      rw [e2, e3]
      have HR := Lib.hid hr
      clear e2 e3 hr ha
      go_enter Try.func69, Try.ntmps69
      go_upto_region 1 with fail
      rw [HW.out]
      go_wp2_with fail
      refine (is_yes act _ H0.out H2.out).mono ?_
      rintro e w' ⟨rfl, rfl⟩
      go_wp2_with fail
      refine (runs_no now _ HR.out).mono ?_
      rintro e w' ⟨rfl, rfl⟩
      go_wp2_with fail
      refine (stay_any now 0 _).mono ?_
      rintro e w1 ⟨rfl, hb2⟩
      have HX2 := Lib.hid ((hb2.block _ (lt_of_block HX.out)).trans HX.out)
      have HB2 := Lib.hid (HB.out.trans (hb2.mono HB.out.size))
      clear hb2
      go_wp2_with ((with_reducible show wpList _ _ _ _ _ _); refine wpList_store_row rfl 99 (.tmp 4) (.tmp 16) rfl w.heap.size #[.int .i64 now, .int .i64 0, .int .i64 0] rfl rfl 99 #[.int .i64 0, .int .i64 0, .int .i64 0] HX2.out (by rw [size_ch]; rfl) rfl (one_ch _ _ _) ?_)
      refine bodyPost_ret (v := .agg #[.int .i64 now, .int .i64 0, .int .i64 0]) (results_cell_row (by rfl) _ _ w.heap.size 99 _ (0, 0) _ rfl (setRow_heap _ _ _ _ _ _ HX2.out) Try.underlying99 rfl (by rw [size_ch]; rfl)) rfl ⟨rfl, ?_⟩
      exact HB2.out.trans ⟨rfl, rfl, rfl, by simp, fun b hb => setRow_other _ _ _ _ (by omega)⟩
    · have HR0 : Hid (1 ≤ now) := by show _ ≤ _; omega
      have HR3 : Hid (now ≤ 3) := by show _ ≤ _; omega
      unfold actM actS
      rw [if_neg hr, if_neg hr]
      clear hr
      rcases ha with rfl | rfl | rfl
      · rw [if_neg (by decide), if_neg (by decide), if_neg (by decide), if_neg (by decide)]
        go_enter Try.func69, Try.ntmps69
        go_upto_region 1 with fail
        rw [HW.out]
        go_wp2_with fail
        refine (is_yes 0 _ H0.out H2.out).mono ?_
        rintro e w' ⟨rfl, rfl⟩
        go_wp2_with fail
        refine (runs_yes now _ HR0.out HR3.out).mono ?_
        rintro e w' ⟨rfl, rfl⟩
        go_wp2_with fail
        refine (stay_any now 0 _).mono ?_
        rintro e w1 ⟨rfl, hb2⟩
        have HX2 := Lib.hid ((hb2.block _ (lt_of_block HX.out)).trans HX.out)
        have HB2 := Lib.hid (HB.out.trans (hb2.mono HB.out.size))
        clear hb2
        go_wp2_with ((with_reducible show wpList _ _ _ _ _ _); refine wpList_store_row rfl 99 (.tmp 4) (.tmp 26) rfl w.heap.size #[.int .i64 now, .int .i64 0, .int .i64 0] rfl rfl 99 #[.int .i64 0, .int .i64 0, .int .i64 0] HX2.out (by rw [size_ch]; rfl) rfl (one_ch _ _ _) ?_)
        refine bodyPost_ret (v := .agg #[.int .i64 now, .int .i64 0, .int .i64 0]) (results_cell_row (by rfl) _ _ w.heap.size 99 _ (0, 0) _ rfl (setRow_heap _ _ _ _ _ _ HX2.out) Try.underlying99 rfl (by rw [size_ch]; rfl)) rfl ⟨rfl, ?_⟩
        exact HB2.out.trans ⟨rfl, rfl, rfl, by simp, fun b hb => setRow_other _ _ _ _ (by omega)⟩
      · rw [if_pos rfl, if_pos rfl]
        go_enter Try.func69, Try.ntmps69
        go_upto_region 1 with fail
        rw [HW.out]
        go_wp2_with fail
        refine (is_yes 1 _ H0.out H2.out).mono ?_
        rintro e w' ⟨rfl, rfl⟩
        go_wp2_with fail
        refine (runs_yes now _ HR0.out HR3.out).mono ?_
        rintro e w' ⟨rfl, rfl⟩
        go_wp2_with fail
        refine (come_any 2 _).mono ?_
        rintro e w1 ⟨rfl, hb2⟩
        have e5 : startN 2 = 1 := rfl
        rw [e5]
        have HX2 := Lib.hid ((hb2.block _ (lt_of_block HX.out)).trans HX.out)
        have HB2 := Lib.hid (HB.out.trans (hb2.mono HB.out.size))
        clear hb2 e5
        go_wp2_with ((with_reducible show wpList _ _ _ _ _ _); refine wpList_store_row rfl 99 (.tmp 4) (.tmp 20) rfl w.heap.size #[.int .i64 2, .int .i64 1, .int .i64 0] rfl rfl 99 #[.int .i64 0, .int .i64 0, .int .i64 0] HX2.out (by rw [size_ch]; rfl) rfl (one_ch _ _ _) ?_)
        refine bodyPost_ret (v := .agg #[.int .i64 2, .int .i64 1, .int .i64 0]) (results_cell_row (by rfl) _ _ w.heap.size 99 _ (0, 0) _ rfl (setRow_heap _ _ _ _ _ _ HX2.out) Try.underlying99 rfl (by rw [size_ch]; rfl)) rfl ⟨rfl, ?_⟩
        exact HB2.out.trans ⟨rfl, rfl, rfl, by simp, fun b hb => setRow_other _ _ _ _ (by omega)⟩
      · rw [if_neg (by decide), if_pos rfl, if_neg (by decide), if_pos rfl]
        go_enter Try.func69, Try.ntmps69
        go_upto_region 1 with fail
        rw [HW.out]
        go_wp2_with fail
        refine (is_yes 2 _ H0.out H2.out).mono ?_
        rintro e w' ⟨rfl, rfl⟩
        go_wp2_with fail
        refine (runs_yes now _ HR0.out HR3.out).mono ?_
        rintro e w' ⟨rfl, rfl⟩
        go_wp2_with fail
        refine (come_any 1 _).mono ?_
        rintro e w1 ⟨rfl, hb2⟩
        have e5 : startN 1 = 2 := rfl
        rw [e5]
        have HX2 := Lib.hid ((hb2.block _ (lt_of_block HX.out)).trans HX.out)
        have HB2 := Lib.hid (HB.out.trans (hb2.mono HB.out.size))
        clear hb2 e5
        go_wp2_with ((with_reducible show wpList _ _ _ _ _ _); refine wpList_store_row rfl 99 (.tmp 4) (.tmp 24) rfl w.heap.size #[.int .i64 1, .int .i64 2, .int .i64 0] rfl rfl 99 #[.int .i64 0, .int .i64 0, .int .i64 0] HX2.out (by rw [size_ch]; rfl) rfl (one_ch _ _ _) ?_)
        refine bodyPost_ret (v := .agg #[.int .i64 1, .int .i64 2, .int .i64 0]) (results_cell_row (by rfl) _ _ w.heap.size 99 _ (0, 0) _ rfl (setRow_heap _ _ _ _ _ _ HX2.out) Try.underlying99 rfl (by rw [size_ch]; rfl)) rfl ⟨rfl, ?_⟩
        exact HB2.out.trans ⟨rfl, rfl, rfl, by simp, fun b hb => setRow_other _ _ _ _ (by omega)⟩
set_option maxHeartbeats 1600000 in
/-- The document's answer. -/
theorem rset_any (now want : Int) (w : World) :
    Calls Try.prog 34 #[.int .i64 now, .int .i64 want] w fun e w' => e = .returned (.tuple #[.int .i64 (setM now want), .int .i64 (setS now want), .int .i64 (askN now want)]) ∧ Below w.heap.size w w' := by
  unfold setM setS
  by_cases h1 : want < 0 ∨ 3 < want
  · have e0 : askN now want = 3 := by unfold askN; rw [if_pos h1]
    rw [e0, if_neg (by decide), if_neg (by decide)]
    clear e0
    rcases h1 with h1 | h1
    · have t1 : decide (want < 0) = true := decide_eq_true h1
      clear h1
      go_enter Try.func34, Try.ntmps34
      go_wp2
      go_ret3
      exact ⟨rfl, Below.refl _ _⟩
    · have t1 : decide (want < 0) = false := decide_eq_false (by omega)
      have t2 : decide (3 < want) = true := decide_eq_true h1
      clear h1
      go_enter Try.func34, Try.ntmps34
      go_wp2
      go_ret3
      exact ⟨rfl, Below.refl _ _⟩
  · by_cases h2 : now < 1 ∨ 3 < now
    · have e0 : askN now want = 5 := by unfold askN; rw [if_neg h1, if_pos h2]
      rw [e0, if_neg (by decide), if_neg (by decide)]
      clear e0
      have t1 : decide (want < 0) = false := decide_eq_false (by omega)
      have t2 : decide (3 < want) = false := decide_eq_false (by omega)
      clear h1
      rcases h2 with h2 | h2
      · have t3 : decide (now < 1) = true := decide_eq_true h2
        clear h2
        go_enter Try.func34, Try.ntmps34
        go_wp2
        go_ret3
        exact ⟨rfl, Below.refl _ _⟩
      · have t3 : decide (now < 1) = false := decide_eq_false (by omega)
        have t4 : decide (3 < now) = true := decide_eq_true h2
        clear h2
        go_enter Try.func34, Try.ntmps34
        go_wp2
        go_ret3
        exact ⟨rfl, Below.refl _ _⟩
    · have hn : now = 1 ∨ now = 2 ∨ now = 3 := by omega
      have hw : want = 0 ∨ want = 1 ∨ want = 2 ∨ want = 3 := by omega
      clear h1 h2
      rcases hn with rfl | rfl | rfl <;> rcases hw with rfl | rfl | rfl | rfl
      all_goals
        simp [askN, startN]
        go_enter Try.func34, Try.ntmps34
        go_wp2
        try go_region
        try go_wp2
        go_ret3
        first
          | exact ⟨rfl, (Below.refl _ _).alloc (Nat.le_refl _) _⟩
          | exact ⟨rfl, below_drew (((Below.refl _ _).alloc (Nat.le_refl _) _).alloc (by simp) _)⟩
/-- The document's answer to an action. -/
theorem ract_any (now act : Int) (w : World) :
    Calls Try.prog 65 #[.int .i64 now, .int .i64 act] w fun e w' => e = .returned (.tuple #[.int .i64 (if actN act = 0 then actM now act else now), .int .i64 (if actN act = 0 then actS now act else 0), .int .i64 (actN act)]) ∧ w = w' := by
  by_cases h1 : act < 0 ∨ 2 < act
  · have e0 : actN act = 3 := by unfold actN; rw [if_pos h1]
    rw [e0, if_neg (by decide), if_neg (by decide)]
    clear e0
    rcases h1 with h1 | h1
    · have t1 : decide (act < 0) = true := decide_eq_true h1
      clear h1
      go_enter Try.func65, Try.ntmps65
      go_wp2
      go_ret3
      exact ⟨rfl, rfl⟩
    · have t1 : decide (act < 0) = false := decide_eq_false (by omega)
      have t2 : decide (2 < act) = true := decide_eq_true h1
      clear h1
      go_enter Try.func65, Try.ntmps65
      go_wp2
      go_ret3
      exact ⟨rfl, rfl⟩
  · have e0 : actN act = 0 := by unfold actN; rw [if_neg h1]
    rw [e0, if_pos rfl, if_pos rfl]
    have ha : act = 0 ∨ act = 1 ∨ act = 2 := by omega
    unfold actM actS
    clear e0 h1
    by_cases h2 : now < 1 ∨ 3 < now
    · rw [if_pos h2, if_pos h2]
      rcases h2 with h2 | h2
      · have t1 : decide (now < 1) = true := decide_eq_true h2
        clear h2
        rcases ha with rfl | rfl | rfl
        all_goals
          go_enter Try.func65, Try.ntmps65
          go_wp2
          go_ret3
          exact ⟨rfl, rfl⟩
      · have t1 : decide (now < 1) = false := decide_eq_false (by omega)
        have t2 : decide (3 < now) = true := decide_eq_true h2
        clear h2
        rcases ha with rfl | rfl | rfl
        all_goals
          go_enter Try.func65, Try.ntmps65
          go_wp2
          go_ret3
          exact ⟨rfl, rfl⟩
    · rw [if_neg h2, if_neg h2]
      have t1 : decide (now < 1) = false := decide_eq_false (by omega)
      have t2 : decide (3 < now) = false := decide_eq_false (by omega)
      clear h2
      rcases ha with rfl | rfl | rfl
      all_goals
        go_enter Try.func65, Try.ntmps65
        go_wp2
        go_ret3
        exact ⟨rfl, rfl⟩
theorem field2 (a b c : Int) (w : World) : (Instr.field 99 (.agg #[.int .i64 a, .int .i64 b, .int .i64 c]) 2).run Try.prog w = .ok (.int .i64 c) w := by kernel_rfl
end Go.Proofs.Ytjdgpbjjhgfikaa.Mod
