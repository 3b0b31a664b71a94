
/- What the document's Get of a name reads: the same as the program's. No condition. -/

import Derived.Test.YtbjolbgjohggiaaDoorNamC

namespace Go.Proofs.YtbjolbgjohggiaaDoor.Nam

open Go.RowKit Go.PlainAid Go.Proofs.YtbjolbgjohggiaaDoor.Oct Go.Proofs.YtbjolbgjohggiaaDoor.Flt Go.Proofs.YtbjolbgjohggiaaDoor.Rdr

set_option linter.unusedVariables false

abbrev W0 (w : World) (t : St) : World := (w.alloc (.cells (rdC t) 30)).alloc (.cells rd0 30)
abbrev W1 (w1 : World) (t1 : St) : World := w1.alloc (.cells (rdC t1) 30)
theorem facts_num {w w1 : World} {t : St} (hb : Below (W0 w t).heap.size (W0 w t) w1) :
    Hid (w1.heap[w.heap.size + 1]? = some (.cells rd0 30 (0, 0))) ∧ Hid (Below w.heap.size w w1) ∧ w.heap.size + 1 < w1.heap.size := by
  refine ⟨(hb.block _ (by simp [W0])).trans (by have := heap_alloc_new (w.alloc (.cells (rdC t) 30)) (.cells rd0 30); simpa [W0] using this), (two_below w _ _).trans (hb.mono (two_below w _ _).size), ?_⟩
  have := hb.size; simp [W0] at this; omega
theorem facts_two {w w1 w2 : World} {t1 : St} (hr : w1.heap[w.heap.size + 1]? = some (.cells rd0 30 (0, 0))) (hbe : Below w.heap.size w w1) (hz : w.heap.size + 1 < w1.heap.size) (hb : Below (W1 w1 t1).heap.size (W1 w1 t1) w2) :
    Hid (w2.heap[w.heap.size + 1]? = some (.cells rd0 30 (0, 0))) ∧ Hid (w2.heap[w1.heap.size]? = some (.cells (rdC t1) 30 (0, 0))) ∧ Hid (Below w.heap.size w w2) ∧ w1.heap.size < w2.heap.size := by
  refine ⟨(hb.block _ (by simp [W1]; omega)).trans ((Below.heap_alloc _ _ _ (by omega)).trans hr), (hb.block _ (by simp [W1])).trans (heap_alloc_new _ _), (hbe.alloc hbe.size _).trans (hb.mono ?_), ?_⟩
  · have := hbe.size; simp [W1]; omega
  · have := hb.size; simp [W1] at this; omega
theorem facts_set {w w1 w2 : World} {t1 t3 : St} (hr : w2.heap[w.heap.size + 1]? = some (.cells rd0 30 (0, 0))) (hc : w2.heap[w1.heap.size]? = some (.cells (rdC t1) 30 (0, 0))) (hbe : Below w.heap.size w w2) (hz : w.heap.size + 1 < w1.heap.size) :
    Hid ((w2.setRow w1.heap.size (rdC t3)).heap[w.heap.size + 1]? = some (.cells rd0 30 (0, 0))) ∧ Hid ((w2.setRow w1.heap.size (rdC t3)).heap[w1.heap.size]? = some (.cells (rdC t3) 30 (0, 0))) ∧ Hid (Below w.heap.size w (w2.setRow w1.heap.size (rdC t3))) ∧
      (w2.setRow w1.heap.size (rdC t3)).cell? ⟨w1.heap.size, 3, none⟩ = some (.int .i64 t3.k) := by
  have h1 : (w2.setRow w1.heap.size (rdC t3)).heap[w1.heap.size]? = some (.cells (rdC t3) 30 (0, 0)) := setRow_heap _ _ _ _ _ _ hc
  refine ⟨(setRow_other _ _ _ _ (by omega)).trans hr, h1, below_setRow hbe (by omega), ?_⟩
  rw [cell_of_row _ _ _ _ _ _ h1]; rfl
theorem facts_three {w W w3 : World} (hr : W.heap[w.heap.size + 1]? = some (.cells rd0 30 (0, 0))) (hbe : Below w.heap.size w W) (hb : Below W.heap.size W w3) :
    Hid (w3.heap[w.heap.size + 1]? = some (.cells rd0 30 (0, 0))) ∧ Hid (Below w.heap.size w w3) :=
  ⟨(hb.block _ (lt_of_block hr)).trans hr, hbe.trans (hb.mono hbe.size)⟩
theorem len_rd (t : St) : (rdC t).size = 6 := rfl
set_option maxRecDepth 4000 in
set_option maxHeartbeats 400000 in
theorem rget_e1 (t t1 t3 t4 : St) (v : Nat) (x : ByteArray) (w : World) (hv : v ≤ 255) (hk1 : t1.k ≠ 0) (hk3 : t3.k ≠ 0) (HNUM : Hid (∀ w, Calls Tryd.prog 33 #[.agg (rdC t), .int .i64 1] w (RNumPost t1 (.int .u64 v) w))) (HTXT : Hid (∀ w, Calls Tryd.prog 34 #[.agg (rdC t1), .int .i64 v] w (RNumPost t3 (.string x) w))) :
    Calls Tryd.prog 29 #[.agg (rdC t)] w (RNumPost t3 (.string x) w) := by
  have t1a : ((t1.k : Int) == 0) = false := by simp; exact hk1
  have t3a : ((t3.k : Int) == 0) = false := by simp; exact hk3
  clear hk1 hk3
  unfold rdC
  go_enter Tryd.func29, Tryd.ntmps29
  go_wp2_with (first
    | (go_at_call 33; refine (HNUM.out _).mono ?_; rintro e w1 ⟨rfl, hb⟩; obtain ⟨HR1, HBE, hz⟩ := facts_num hb; clear hb; dsimp only [rdC])
    | (go_at_call 34; refine (HTXT.out _).mono ?_; rintro e w2 ⟨rfl, hb⟩; obtain ⟨HR2, HRC, HBE2, hz2⟩ := facts_two (t1 := t1) HR1.out HBE.out hz hb; obtain ⟨HR3, HRD, HBE3, hc3⟩ := facts_set (t3 := t3) HR2.out HRC.out HBE2.out hz; clear hb)
    | (go_at_call 26; refine (HRI.out _).mono ?_; rintro e w' ⟨rfl, rfl⟩)
    | ((with_reducible show wpList _ _ _ _ _ _); refine wpList_store_row rfl 30 (.tmp 5) (.tmp 35) rfl w1.heap.size (rdC t3) rfl rfl 30 (rdC t1) HRC.out (by rw [size_rd]; rfl) rfl (one_rd _) ?_)
    | ((with_reducible show wpList _ _ _ _ _ _); refine wpList_load_row rfl 30 (.tmp 5) rfl w1.heap.size rfl 30 _ (0, 0) _ HRD.out Tryd.underlying30 rfl (by rw [size_rd]; rfl) ?_)
    | ((with_reducible show wpList _ _ _ _ _ _); refine wpList_store_row rfl 30 (.tmp 2) (.tmp 49) rfl (w.heap.size + 1) (rdC t3) rfl rfl 30 rd0 HR3.out (by rw [size_rd]; rfl) rfl (one_rd _) ?_))
  refine bodyPost_ret (v := .tuple #[.agg (rdC t3), .string x]) (results_row_tmp (fn := Tryd.f29) (p := 2) (u := 3) (ty := 30) rfl _ _ (w.heap.size + 1) 30 _ (0, 0) _ rfl (setRow_heap (w2.setRow w1.heap.size (rdC t3)) (w.heap.size + 1) rd0 (rdC t3) 30 (0, 0) HR3.out) Tryd.underlying30 rfl (by rw [size_rd]; rfl)) rfl ⟨rfl, ?_⟩
  exact below_setRow HBE3.out (by omega)
set_option maxRecDepth 4000 in
set_option maxHeartbeats 400000 in
theorem rget_e2 (t t1 t3 t4 : St) (v : Nat) (x : ByteArray) (w : World) (hv : v ≤ 255) (hk1 : t1.k = 0) (hg : 1 ≤ v ∧ v ≤ 16) (hk3 : t3.k ≠ 0) (HNUM : Hid (∀ w, Calls Tryd.prog 33 #[.agg (rdC t), .int .i64 1] w (RNumPost t1 (.int .u64 v) w))) (HTXT : Hid (∀ w, Calls Tryd.prog 34 #[.agg (rdC t1), .int .i64 v] w (RNumPost t3 (.string x) w))) :
    Calls Tryd.prog 29 #[.agg (rdC t)] w (RNumPost t3 (.string x) w) := by
  have t1a : ((t1.k : Int) == 0) = true := by simp; exact hk1
  have t2a : ((v : Int) == 0) = false := by simp; omega
  have t2b : decide (16 < (v : Int)) = false := decide_eq_false (by omega)
  have t2c : decide (16 < v) = false := decide_eq_false (by omega)
  have t2d : (v == 0) = false := by simp; omega
  have t3a : ((t3.k : Int) == 0) = false := by simp; exact hk3
  clear hk1 hg hk3
  unfold rdC
  go_enter Tryd.func29, Tryd.ntmps29
  go_wp2_with (first
    | (go_at_call 33; refine (HNUM.out _).mono ?_; rintro e w1 ⟨rfl, hb⟩; obtain ⟨HR1, HBE, hz⟩ := facts_num hb; clear hb; dsimp only [rdC])
    | (go_at_call 34; refine (HTXT.out _).mono ?_; rintro e w2 ⟨rfl, hb⟩; obtain ⟨HR2, HRC, HBE2, hz2⟩ := facts_two (t1 := t1) HR1.out HBE.out hz hb; obtain ⟨HR3, HRD, HBE3, hc3⟩ := facts_set (t3 := t3) HR2.out HRC.out HBE2.out hz; clear hb)
    | (go_at_call 26; refine (HRI.out _).mono ?_; rintro e w' ⟨rfl, rfl⟩)
    | ((with_reducible show wpList _ _ _ _ _ _); refine wpList_store_row rfl 30 (.tmp 5) (.tmp 35) rfl w1.heap.size (rdC t3) rfl rfl 30 (rdC t1) HRC.out (by rw [size_rd]; rfl) rfl (one_rd _) ?_)
    | ((with_reducible show wpList _ _ _ _ _ _); refine wpList_load_row rfl 30 (.tmp 5) rfl w1.heap.size rfl 30 _ (0, 0) _ HRD.out Tryd.underlying30 rfl (by rw [size_rd]; rfl) ?_)
    | ((with_reducible show wpList _ _ _ _ _ _); refine wpList_store_row rfl 30 (.tmp 2) (.tmp 49) rfl (w.heap.size + 1) (rdC t3) rfl rfl 30 rd0 HR3.out (by rw [size_rd]; rfl) rfl (one_rd _) ?_))
  refine bodyPost_ret (v := .tuple #[.agg (rdC t3), .string x]) (results_row_tmp (fn := Tryd.f29) (p := 2) (u := 3) (ty := 30) rfl _ _ (w.heap.size + 1) 30 _ (0, 0) _ rfl (setRow_heap (w2.setRow w1.heap.size (rdC t3)) (w.heap.size + 1) rd0 (rdC t3) 30 (0, 0) HR3.out) Tryd.underlying30 rfl (by rw [size_rd]; rfl)) rfl ⟨rfl, ?_⟩
  exact below_setRow HBE3.out (by omega)
set_option maxRecDepth 4000 in
set_option maxHeartbeats 400000 in
theorem rget_e3 (t t1 t3 t4 : St) (v : Nat) (x : ByteArray) (w : World) (hv : v ≤ 255) (hk1 : t1.k = 0) (hg : 1 ≤ v ∧ v ≤ 16) (hk3 : t3.k = 0) (HNUM : Hid (∀ w, Calls Tryd.prog 33 #[.agg (rdC t), .int .i64 1] w (RNumPost t1 (.int .u64 v) w))) (HTXT : Hid (∀ w, Calls Tryd.prog 34 #[.agg (rdC t1), .int .i64 v] w (RNumPost t3 (.string x) w))) (HRI : Hid (∀ w, Calls Tryd.prog 26 #[.string x] w fun e w' => e = .returned (.bool true) ∧ w = w')) :
    Calls Tryd.prog 29 #[.agg (rdC t)] w (RNumPost t3 (.string x) w) := by
  have t1a : ((t1.k : Int) == 0) = true := by simp; exact hk1
  have t2a : ((v : Int) == 0) = false := by simp; omega
  have t2b : decide (16 < (v : Int)) = false := decide_eq_false (by omega)
  have t2c : decide (16 < v) = false := decide_eq_false (by omega)
  have t2d : (v == 0) = false := by simp; omega
  have t3a : ((t3.k : Int) == 0) = true := by simp; exact hk3
  clear hk1 hg hk3
  unfold rdC
  go_enter Tryd.func29, Tryd.ntmps29
  go_wp2_with (first
    | (go_at_call 33; refine (HNUM.out _).mono ?_; rintro e w1 ⟨rfl, hb⟩; obtain ⟨HR1, HBE, hz⟩ := facts_num hb; clear hb; dsimp only [rdC])
    | (go_at_call 34; refine (HTXT.out _).mono ?_; rintro e w2 ⟨rfl, hb⟩; obtain ⟨HR2, HRC, HBE2, hz2⟩ := facts_two (t1 := t1) HR1.out HBE.out hz hb; obtain ⟨HR3, HRD, HBE3, hc3⟩ := facts_set (t3 := t3) HR2.out HRC.out HBE2.out hz; clear hb)
    | (go_at_call 26; refine (HRI.out _).mono ?_; rintro e w' ⟨rfl, rfl⟩)
    | ((with_reducible show wpList _ _ _ _ _ _); refine wpList_store_row rfl 30 (.tmp 5) (.tmp 35) rfl w1.heap.size (rdC t3) rfl rfl 30 (rdC t1) HRC.out (by rw [size_rd]; rfl) rfl (one_rd _) ?_)
    | ((with_reducible show wpList _ _ _ _ _ _); refine wpList_load_row rfl 30 (.tmp 5) rfl w1.heap.size rfl 30 _ (0, 0) _ HRD.out Tryd.underlying30 rfl (by rw [size_rd]; rfl) ?_)
    | ((with_reducible show wpList _ _ _ _ _ _); refine wpList_store_row rfl 30 (.tmp 2) (.tmp 49) rfl (w.heap.size + 1) (rdC t3) rfl rfl 30 rd0 HR3.out (by rw [size_rd]; rfl) rfl (one_rd _) ?_))
  refine bodyPost_ret (v := .tuple #[.agg (rdC t3), .string x]) (results_row_tmp (fn := Tryd.f29) (p := 2) (u := 3) (ty := 30) rfl _ _ (w.heap.size + 1) 30 _ (0, 0) _ rfl (setRow_heap (w2.setRow w1.heap.size (rdC t3)) (w.heap.size + 1) rd0 (rdC t3) 30 (0, 0) HR3.out) Tryd.underlying30 rfl (by rw [size_rd]; rfl)) rfl ⟨rfl, ?_⟩
  exact below_setRow HBE3.out (by omega)
set_option maxRecDepth 4000 in
set_option maxHeartbeats 400000 in
theorem rget_f1 (t t1 t3 t4 : St) (v : Nat) (x : ByteArray) (w : World) (hv : v ≤ 255) (hk1 : t1.k = 0) (hg : v = 0) (HNUM : Hid (∀ w, Calls Tryd.prog 33 #[.agg (rdC t), .int .i64 1] w (RNumPost t1 (.int .u64 v) w))) (HFAIL : Hid (∀ w, Calls Tryd.prog 36 #[.agg (rdC t1), .int .i64 7, .int .i64 t.p] w (RPost t4 w))) :
    Calls Tryd.prog 29 #[.agg (rdC t)] w (RNumPost t4 (.string ⟨#[]⟩) w) := by
  have t1a : ((t1.k : Int) == 0) = true := by simp; exact hk1
  have t2a : ((v : Int) == 0) = true := by simp; omega
  clear hk1 hg
  unfold rdC
  go_enter Tryd.func29, Tryd.ntmps29
  go_wp2_with (first
    | (go_at_call 33; refine (HNUM.out _).mono ?_; rintro e w1 ⟨rfl, hb⟩; obtain ⟨HR1, HBE, hz⟩ := facts_num hb; clear hb; dsimp only [rdC])
    | (go_at_call 36; refine (HFAIL.out _).mono ?_; rintro e w2 ⟨rfl, hb⟩; obtain ⟨HR2, HRC, HBE2, hz2⟩ := facts_two (t1 := t1) HR1.out HBE.out hz hb; clear hb)
    | ((with_reducible show wpList _ _ _ _ _ _); refine wpList_store_row rfl 30 (.tmp 2) (.tmp 29) rfl (w.heap.size + 1) (rdC t4) rfl rfl 30 rd0 HR2.out (by rw [size_rd]; rfl) rfl (one_rd _) ?_))
  refine bodyPost_ret (v := .tuple #[.agg (rdC t4), .string ⟨#[]⟩]) (results_row_tmp (fn := Tryd.f29) (p := 2) (u := 3) (ty := 30) rfl _ _ (w.heap.size + 1) 30 _ (0, 0) _ rfl (setRow_heap _ _ _ _ _ _ HR2.out) Tryd.underlying30 rfl (by rw [size_rd]; rfl)) rfl ⟨rfl, ?_⟩
  exact below_setRow HBE2.out (by omega)
set_option maxRecDepth 4000 in
set_option maxHeartbeats 400000 in
theorem rget_f2 (t t1 t3 t4 : St) (v : Nat) (x : ByteArray) (w : World) (hv : v ≤ 255) (hk1 : t1.k = 0) (hg : 16 < v) (HNUM : Hid (∀ w, Calls Tryd.prog 33 #[.agg (rdC t), .int .i64 1] w (RNumPost t1 (.int .u64 v) w))) (HFAIL : Hid (∀ w, Calls Tryd.prog 36 #[.agg (rdC t1), .int .i64 7, .int .i64 t.p] w (RPost t4 w))) :
    Calls Tryd.prog 29 #[.agg (rdC t)] w (RNumPost t4 (.string ⟨#[]⟩) w) := by
  have t1a : ((t1.k : Int) == 0) = true := by simp; exact hk1
  have t2a : ((v : Int) == 0) = false := by simp; omega
  have t2b : decide (16 < (v : Int)) = true := decide_eq_true (by omega)
  have t2c : decide (16 < v) = true := decide_eq_true (by omega)
  have t2d : (v == 0) = false := by simp; omega
  clear hk1 hg
  unfold rdC
  go_enter Tryd.func29, Tryd.ntmps29
  go_wp2_with (first
    | (go_at_call 33; refine (HNUM.out _).mono ?_; rintro e w1 ⟨rfl, hb⟩; obtain ⟨HR1, HBE, hz⟩ := facts_num hb; clear hb; dsimp only [rdC])
    | (go_at_call 36; refine (HFAIL.out _).mono ?_; rintro e w2 ⟨rfl, hb⟩; obtain ⟨HR2, HRC, HBE2, hz2⟩ := facts_two (t1 := t1) HR1.out HBE.out hz hb; clear hb)
    | ((with_reducible show wpList _ _ _ _ _ _); refine wpList_store_row rfl 30 (.tmp 2) (.tmp 29) rfl (w.heap.size + 1) (rdC t4) rfl rfl 30 rd0 HR2.out (by rw [size_rd]; rfl) rfl (one_rd _) ?_))
  refine bodyPost_ret (v := .tuple #[.agg (rdC t4), .string ⟨#[]⟩]) (results_row_tmp (fn := Tryd.f29) (p := 2) (u := 3) (ty := 30) rfl _ _ (w.heap.size + 1) 30 _ (0, 0) _ rfl (setRow_heap _ _ _ _ _ _ HR2.out) Tryd.underlying30 rfl (by rw [size_rd]; rfl)) rfl ⟨rfl, ?_⟩
  exact below_setRow HBE2.out (by omega)
set_option maxRecDepth 4000 in
set_option maxHeartbeats 400000 in
theorem rget_f3 (t t1 t3 t4 : St) (v : Nat) (x : ByteArray) (w : World) (hv : v ≤ 255) (hk1 : t1.k = 0) (hg : 1 ≤ v ∧ v ≤ 16) (hk3 : t3.k = 0) (HNUM : Hid (∀ w, Calls Tryd.prog 33 #[.agg (rdC t), .int .i64 1] w (RNumPost t1 (.int .u64 v) w))) (HTXT : Hid (∀ w, Calls Tryd.prog 34 #[.agg (rdC t1), .int .i64 v] w (RNumPost t3 (.string x) w))) (HRI : Hid (∀ w, Calls Tryd.prog 26 #[.string x] w fun e w' => e = .returned (.bool false) ∧ w = w')) (HFAIL : Hid (∀ w, Calls Tryd.prog 36 #[.agg (rdC t3), .int .i64 7, .int .i64 t.p] w (RPost t4 w))) :
    Calls Tryd.prog 29 #[.agg (rdC t)] w (RNumPost t4 (.string ⟨#[]⟩) w) := by
  have t1a : ((t1.k : Int) == 0) = true := by simp; exact hk1
  have t2a : ((v : Int) == 0) = false := by simp; omega
  have t2b : decide (16 < (v : Int)) = false := decide_eq_false (by omega)
  have t2c : decide (16 < v) = false := decide_eq_false (by omega)
  have t2d : (v == 0) = false := by simp; omega
  have t3a : ((t3.k : Int) == 0) = true := by simp; exact hk3
  clear hk1 hg hk3
  unfold rdC
  go_enter Tryd.func29, Tryd.ntmps29
  go_wp2_with (first
    | (go_at_call 33; refine (HNUM.out _).mono ?_; rintro e w1 ⟨rfl, hb⟩; obtain ⟨HR1, HBE, hz⟩ := facts_num hb; clear hb; dsimp only [rdC])
    | (go_at_call 34; refine (HTXT.out _).mono ?_; rintro e w2 ⟨rfl, hb⟩; obtain ⟨HR2, HRC, HBE2, hz2⟩ := facts_two (t1 := t1) HR1.out HBE.out hz hb; obtain ⟨HR3, HRD, HBE3, hc3⟩ := facts_set (t3 := t3) HR2.out HRC.out HBE2.out hz; clear hb)
    | (go_at_call 26; refine (HRI.out _).mono ?_; rintro e w' ⟨rfl, rfl⟩)
    | (go_at_call 36; refine (HFAIL.out _).mono ?_; rintro e w3 ⟨rfl, hb⟩; obtain ⟨HR4, HBE4⟩ := facts_three HR3.out HBE3.out hb; clear hb)
    | ((with_reducible show wpList _ _ _ _ _ _); refine wpList_store_row rfl 30 (.tmp 5) (.tmp 35) rfl w1.heap.size (rdC t3) rfl rfl 30 (rdC t1) HRC.out (by rw [size_rd]; rfl) rfl (one_rd _) ?_)
    | ((with_reducible show wpList _ _ _ _ _ _); refine wpList_load_row rfl 30 (.tmp 5) rfl w1.heap.size rfl 30 _ (0, 0) _ HRD.out Tryd.underlying30 rfl (by rw [size_rd]; rfl) ?_)
    | ((with_reducible show wpList _ _ _ _ _ _); refine wpList_store_row rfl 30 (.tmp 2) (.tmp 48) rfl (w.heap.size + 1) (rdC t4) rfl rfl 30 rd0 HR4.out (by rw [size_rd]; rfl) rfl (one_rd _) ?_))
  refine bodyPost_ret (v := .tuple #[.agg (rdC t4), .string ⟨#[]⟩]) (results_row_tmp (fn := Tryd.f29) (p := 2) (u := 3) (ty := 30) rfl _ _ (w.heap.size + 1) 30 _ (0, 0) _ rfl (setRow_heap _ _ _ _ _ _ HR4.out) Tryd.underlying30 rfl (by rw [size_rd]; rfl)) rfl ⟨rfl, ?_⟩
  exact below_setRow HBE4.out (by omega)
theorem rget_any (t : St) (w : World) (ho : Ok t) :
    Calls Tryd.prog 29 #[.agg (rdC t)] w (RNumPost (nmS t) (.string (nmV t)) w) := by
  have HNUM := Lib.hid (fun w => rnum_any t 1 w ho (by omega))
  have hv := u8_le t
  have ho1 := ok_num ho 1
  have HTXT := Lib.hid (fun w => rtxt_any (numS t 1) (numV t 1) w ho1)
  by_cases hk : (numS t 1).k = 0
  · by_cases hb : numV t 1 = 0 ∨ 16 < numV t 1
    · have e1 : nmS t = failS (numS t 1) 7 t.p := by unfold nmS; rw [if_neg (by omega), if_pos hb]
      have e2 : nmV t = ⟨#[]⟩ := by unfold nmV; rw [if_neg (fun h => h.2.1 hb)]
      rw [e1, e2]
      have HFAIL := Lib.hid (fun w => rfail_any (numS t 1) 7 t.p w (by omega))
      rcases hb with hb | hb
      · exact rget_f1 t (numS t 1) t _ (numV t 1) ⟨#[]⟩ w hv hk hb HNUM HFAIL
      · exact rget_f2 t (numS t 1) t _ (numV t 1) ⟨#[]⟩ w hv hk hb HNUM HFAIL
    · have hS : nmS t = if (txtS (numS t 1) (numV t 1)).k ≠ 0 then txtS (numS t 1) (numV t 1) else if rightB (txtV (numS t 1) (numV t 1)) then txtS (numS t 1) (numV t 1) else failS (txtS (numS t 1) (numV t 1)) 7 t.p := by
        unfold nmS; rw [if_neg (by omega), if_neg hb]
      by_cases hk3 : (txtS (numS t 1) (numV t 1)).k = 0
      · have HRI := Lib.hid (fun w => rright_any (txtV (numS t 1) (numV t 1)) w (txt_size _ _ ho1))
        cases hr : rightB (txtV (numS t 1) (numV t 1)) with
        | true =>
          have e1 : nmS t = txtS (numS t 1) (numV t 1) := by rw [hS, if_neg (by omega), hr]; rfl
          have e2 : nmV t = txtV (numS t 1) (numV t 1) := by unfold nmV; rw [if_pos ⟨hk, hb, hk3, hr⟩]
          rw [hr] at HRI
          rw [e1, e2]
          exact rget_e3 t (numS t 1) _ t (numV t 1) _ w hv hk (by omega) hk3 HNUM HTXT HRI
        | false =>
          have e1 : nmS t = failS (txtS (numS t 1) (numV t 1)) 7 t.p := by rw [hS, if_neg (by omega), hr]; rfl
          have e2 : nmV t = ⟨#[]⟩ := by unfold nmV; rw [if_neg (fun h => by rw [hr] at h; cases h.2.2.2)]
          rw [hr] at HRI
          rw [e1, e2]
          have HFAIL := Lib.hid (fun w => rfail_any (txtS (numS t 1) (numV t 1)) 7 t.p w (by omega))
          exact rget_f3 t (numS t 1) _ _ (numV t 1) _ w hv hk (by omega) hk3 HNUM HTXT HRI HFAIL
      · have e1 : nmS t = txtS (numS t 1) (numV t 1) := by rw [hS, if_pos hk3]
        have e2 : nmV t = ⟨#[]⟩ := by unfold nmV; rw [if_neg (fun h => hk3 h.2.2.1)]
        have e3 : txtV (numS t 1) (numV t 1) = ⟨#[]⟩ := by
          unfold txtV
          rw [if_neg]
          intro h
          apply hk3
          unfold txtS; rw [if_pos h.1, if_pos h.2]; exact h.1
        rw [e3] at HTXT
        rw [e1, e2]
        exact rget_e2 t (numS t 1) _ t (numV t 1) _ w hv hk (by omega) hk3 HNUM HTXT
  · have e1 : nmS t = numS t 1 := by unfold nmS; rw [if_pos hk]
    have e2 : nmV t = ⟨#[]⟩ := by unfold nmV; rw [if_neg (fun h => hk h.1)]
    have e3 : txtS (numS t 1) (numV t 1) = numS t 1 := by unfold txtS; rw [if_neg hk]
    have e4 : txtV (numS t 1) (numV t 1) = ⟨#[]⟩ := by unfold txtV; rw [if_neg (fun h => hk h.1)]
    rw [e3, e4] at HTXT
    rw [e1, e2]
    exact rget_e1 t (numS t 1) _ t (numV t 1) _ w hv hk hk HNUM HTXT
end Go.Proofs.YtbjolbgjohggiaaDoor.Nam
