
/- What the document's reader does (Fail, Num, Text): the same reckoning as the program's. No condition. -/

import Derived.Test.YtplllmfbpliciaaGreatDoorRdrD

namespace Go.Proofs.YtplllmfbpliciaaGreatDoor.Rdr

open Go.RowKit Go.PlainAid Go.Proofs.YtplllmfbpliciaaGreatDoor.Flt Go.Proofs.YtplllmfbpliciaaGreatDoor.Oct

set_option linter.unusedVariables false

theorem bcell {W w1 : World} (hb : Below W.heap.size W w1) : (∀ b o, b < W.heap.size → w1.cell? ⟨b, o, none⟩ = W.cell? ⟨b, o, none⟩) ∧ (∀ b o, b < W.heap.size → w1.frozen? ⟨b, o, none⟩ = W.frozen? ⟨b, o, none⟩) :=
  ⟨fun b o h => hb.cell (p := ⟨b, o, none⟩) h, fun b o h => hb.frozen (p := ⟨b, o, none⟩) h⟩
def rdC (t : St) : Array Value := #[.string t.s, .int .i64 t.p, .int .i64 t.sec, .int .i64 t.k, .int .i64 t.fs, .int .i64 t.fa]
theorem size_rd : (Tryz.prog.info? 43).map (·.size) = some 6 := by kernel_rfl
theorem one_rd (t : St) : (rdC t).all (·.oneCell') = true := by simp [rdC, Value.oneCell']
def RPost (t : St) (w : World) (e : Ending) (w' : World) : Prop := e = .returned (.agg (rdC t)) ∧ Below w.heap.size w w'
set_option maxRecDepth 4000 in
theorem rfail_1 (t : St) (k a : Int) (w : World) (h : t.k ≠ 0) :
    Calls Tryz.prog 29 #[.agg (rdC t), .int .i64 k, .int .i64 a] w (RPost t w) := by
  have t1 : ((t.k : Int) == 0) = false := by simp; exact h
  clear h
  unfold rdC
  go_enter Tryz.func29, Tryz.ntmps29
  go_wp2
  exact bodyPost_ret (v := .agg (rdC t)) (by simp [results, Tryz.results29, go_sem, rdC]) rfl ⟨rfl, ((Below.refl _ _).alloc (Nat.le_refl _) _).alloc (by simp) _⟩
def rd0 : Array Value := #[.string ⟨#[]⟩, .int .i64 0, .int .i64 0, .int .i64 0, .int .i64 0, .int .i64 0]
theorem three_set {w1 : World} {b : Nat} {t : St} (h : w1.heap[b]? = some (.cells (rdC t) 43 (0, 0))) (k s a : Int) :
    (((w1.setCell ⟨b, 3, none⟩ (.int .i64 k)).setCell ⟨b, 4, none⟩ (.int .i64 s)).setCell ⟨b, 5, none⟩ (.int .i64 a)).heap[b]? = some (.cells #[.string t.s, .int .i64 t.p, .int .i64 t.sec, .int .i64 k, .int .i64 s, .int .i64 a] 43 (0, 0)) := by
  have h1 := heap_setCell_same w1 b 3 _ _ (.int .i64 k) h
  have h2 := heap_setCell_same _ b 4 _ _ (.int .i64 s) h1
  have h3 := heap_setCell_same _ b 5 _ _ (.int .i64 a) h2
  rw [h3]; rfl
structure FFacts (t : St) (k : Nat) (a : Int) (w w1 : World) : Prop where
  c2 : w1.cell? ⟨w.heap.size, 2, none⟩ = some (.int .i64 t.sec)
  c3 : w1.cell? ⟨w.heap.size, 3, none⟩ = some (.int .i64 t.k)
  c4 : w1.cell? ⟨w.heap.size, 4, none⟩ = some (.int .i64 t.fs)
  c5 : w1.cell? ⟨w.heap.size, 5, none⟩ = some (.int .i64 t.fa)
  hf : ∀ o, w1.frozen? ⟨w.heap.size, o, none⟩ = false
  r0 : Hid ((((w1.setCell ⟨w.heap.size, 3, none⟩ (.int .i64 k)).setCell ⟨w.heap.size, 4, none⟩ (.int .i64 t.sec)).setCell ⟨w.heap.size, 5, none⟩ (.int .i64 a)).heap[w.heap.size]? = some (.cells #[.string t.s, .int .i64 t.p, .int .i64 t.sec, .int .i64 k, .int .i64 t.sec, .int .i64 a] 43 (0, 0)))
  r1 : Hid ((((w1.setCell ⟨w.heap.size, 3, none⟩ (.int .i64 k)).setCell ⟨w.heap.size, 4, none⟩ (.int .i64 t.sec)).setCell ⟨w.heap.size, 5, none⟩ (.int .i64 a)).heap[w.heap.size + 1]? = some (.cells rd0 43 (0, 0)))
  be : Hid (Below w.heap.size w (((w1.setCell ⟨w.heap.size, 3, none⟩ (.int .i64 k)).setCell ⟨w.heap.size, 4, none⟩ (.int .i64 t.sec)).setCell ⟨w.heap.size, 5, none⟩ (.int .i64 a)))
theorem set_far {w1 : World} {b c o : Nat} {v : Value} {y : Option Obj} (h : w1.heap[c]? = y) (hne : c ≠ b) : (w1.setCell ⟨b, o, none⟩ v).heap[c]? = y := (heap_setCell_other w1 ⟨b, o, none⟩ c v hne).trans h
theorem ends_below {w w1 : World} {W : World} (h : Below w.heap.size w w1) (hh : ∀ k, k < w.heap.size → W.heap[k]? = w1.heap[k]?) (ho : W.os = w1.os) (ht : W.tape = w1.tape) (hp : W.output = w1.output) (hs : w1.heap.size ≤ W.heap.size) : Below w.heap.size w W :=
  ⟨ho.trans h.os, ht.trans h.tape, hp.trans h.output, Nat.le_trans h.size hs, fun k hk => (hh k hk).trans (h.block k hk)⟩
theorem below_setRow {w w1 : World} {b : Nat} {cs : Array Value} (h : Below w.heap.size w w1) (hb : w.heap.size ≤ b) : Below w.heap.size w (w1.setRow b cs) :=
  h.trans ⟨rfl, rfl, rfl, by simp, fun k hk => setRow_other _ _ _ _ (by omega)⟩
set_option maxRecDepth 4000 in
set_option maxHeartbeats 800000 in
theorem rfail_2 (t : St) (k : Nat) (a : Int) (w : World) (h : t.k = 0) (h1 : 1 ≤ k) (h2 : k ≤ 18) :
    Calls Tryz.prog 29 #[.agg (rdC t), .int .i64 k, .int .i64 a] w (RPost { t with k := k, fs := t.sec, fa := a } w) := by
  have t1 : ((t.k : Int) == 0) = true := by simp; exact h
  have HN : Hid (∀ w, Calls Tryz.prog 43 #[.int .i64 k] w fun e w' => e = .returned (.string (nm k)) ∧ Below w.heap.size w w') := fun w => by
    have := rname_any k (by omega) w
    rwa [show nameV (k : Int) = nm k by unfold nameV; rw [if_pos (by omega)]; rfl] at this
  have hi := nm_some h1 h2
  obtain ⟨X, hX⟩ : ∃ X, nm k = X := ⟨_, rfl⟩
  rw [hX] at hi HN
  clear h hX h1 h2
  have HB0 : Hid (Below w.heap.size w ((w.alloc (.cells (rdC t) 43)).alloc (.cells rd0 43))) := ((Below.refl _ _).alloc (Nat.le_refl _) _).alloc (by simp) _
  have HF : Hid (∀ w1, Below ((w.alloc (.cells (rdC t) 43)).alloc (.cells rd0 43)).heap.size ((w.alloc (.cells (rdC t) 43)).alloc (.cells rd0 43)) w1 → FFacts t k a w w1) := by
    intro w1 hb
    have hr0 : w1.heap[w.heap.size]? = some (.cells (rdC t) 43 (0, 0)) := (hb.block _ (by simp <;> omega)).trans ((Below.heap_alloc _ _ _ (by simp)).trans (heap_alloc_new _ _))
    have hr1 : w1.heap[w.heap.size + 1]? = some (.cells rd0 43 (0, 0)) := (hb.block _ (by simp)).trans (by have := heap_alloc_new (w.alloc (.cells (rdC t) 43)) (.cells rd0 43); simpa using this)
    refine ⟨by rw [cell_of_row w1 _ _ _ _ _ hr0]; rfl, by rw [cell_of_row w1 _ _ _ _ _ hr0]; rfl, by rw [cell_of_row w1 _ _ _ _ _ hr0]; rfl, by rw [cell_of_row w1 _ _ _ _ _ hr0]; rfl, fun o => frozen_of_row w1 _ _ _ _ hr0, three_set hr0 k t.sec a, set_far (set_far (set_far hr1 (by omega)) (by omega)) (by omega), ?_⟩
    exact (((HB0.out.trans (hb.mono HB0.out.size)).setCell (Nat.le_refl _) _).setCell (Nat.le_refl _) _).setCell (Nat.le_refl _) _
  clear HB0
  unfold rdC
  go_enter Tryz.func29, Tryz.ntmps29
  go_wp2_with (first
    | (go_at_call 43; refine (HN.out _).mono ?_; rintro e w1 ⟨rfl, hb⟩; obtain ⟨hc2, hc3, hc4, hc5, hf, HR0, HR1, HBE⟩ := HF.out w1 hb; clear hb)
    | ((with_reducible show wpList _ _ _ _ _ _); refine wpList_load_row rfl 43 (.tmp 3) rfl w.heap.size rfl 43 _ (0, 0) _ HR0.out Tryz.underlying43 rfl (by rw [size_rd]; rfl) ?_)
    | ((with_reducible show wpList _ _ _ _ _ _); refine wpList_store_row rfl 43 (.tmp 6) (.tmp 22) rfl (w.heap.size + 1) #[.string t.s, .int .i64 t.p, .int .i64 t.sec, .int .i64 k, .int .i64 t.sec, .int .i64 a] rfl rfl 43 rd0 HR1.out (by rw [size_rd]; rfl) rfl (one_rd ⟨t.s, t.p, t.sec, k, t.sec, a⟩) ?_))
  refine bodyPost_ret (v := .agg (rdC ⟨t.s, t.p, t.sec, k, t.sec, a⟩)) (results_cell_row (by rfl) _ _ (w.heap.size + 1) 43 _ (0, 0) _ rfl (setRow_heap _ _ _ _ _ _ HR1.out) Tryz.underlying43 rfl (by rw [size_rd]; rfl)) rfl ⟨rfl, ?_⟩
  exact below_setRow HBE.out (by omega)
set_option maxRecDepth 4000 in
set_option maxHeartbeats 800000 in
theorem rfail_3 (t : St) (k a : Int) (w : World) (hk : -9223372036854775808 ≤ k ∧ k ≤ 9223372036854775807) (h : t.k = 0) (hno : k < 1 ∨ 18 < k) :
    Calls Tryz.prog 29 #[.agg (rdC t), .int .i64 k, .int .i64 a] w (RPost t w) := by
  have t1 : ((t.k : Int) == 0) = true := by simp; exact h
  have HN : Hid (∀ w, Calls Tryz.prog 43 #[.int .i64 k] w fun e w' => e = .returned (.string ⟨#[]⟩) ∧ Below w.heap.size w w') := fun w => by
    have := rname_any k hk w
    rwa [show nameV k = ⟨#[]⟩ by unfold nameV; rw [if_neg (by omega)]] at this
  have HF : Hid (∀ w1, Below ((w.alloc (.cells (rdC t) 43)).alloc (.cells rd0 43)).heap.size ((w.alloc (.cells (rdC t) 43)).alloc (.cells rd0 43)) w1 →
      Hid (w1.heap[w.heap.size]? = some (.cells (rdC t) 43 (0, 0))) ∧ Hid (w1.heap[w.heap.size + 1]? = some (.cells rd0 43 (0, 0))) ∧ Hid (Below w.heap.size w w1)) := by
    intro w1 hb
    have hr0 : w1.heap[w.heap.size]? = some (.cells (rdC t) 43 (0, 0)) := (hb.block _ (by simp <;> omega)).trans ((Below.heap_alloc _ _ _ (by simp)).trans (heap_alloc_new _ _))
    have hr1 : w1.heap[w.heap.size + 1]? = some (.cells rd0 43 (0, 0)) := (hb.block _ (by simp)).trans (by have := heap_alloc_new (w.alloc (.cells (rdC t) 43)) (.cells rd0 43); simpa using this)
    have hb0 : Below w.heap.size w ((w.alloc (.cells (rdC t) 43)).alloc (.cells rd0 43)) := ((Below.refl _ _).alloc (Nat.le_refl _) _).alloc (by simp) _
    exact ⟨hr0, hr1, hb0.trans (hb.mono hb0.size)⟩
  clear h hno hk
  unfold rdC
  go_enter Tryz.func29, Tryz.ntmps29
  go_wp2_with (first
    | (go_at_call 43; refine (HN.out _).mono ?_; rintro e w1 ⟨rfl, hb⟩; obtain ⟨HR0, HR1, HBE⟩ := HF.out w1 hb; clear hb)
    | ((with_reducible show wpList _ _ _ _ _ _); refine wpList_load_row rfl 43 (.tmp 3) rfl w.heap.size rfl 43 _ (0, 0) _ HR0.out Tryz.underlying43 rfl (by rw [size_rd]; rfl) ?_)
    | ((with_reducible show wpList _ _ _ _ _ _); refine wpList_store_row rfl 43 (.tmp 6) (.tmp 22) rfl (w.heap.size + 1) (rdC t) rfl rfl 43 rd0 HR1.out (by rw [size_rd]; rfl) rfl (one_rd t) ?_))
  refine bodyPost_ret (v := .agg (rdC t)) (results_cell_row (by rfl) _ _ (w.heap.size + 1) 43 _ (0, 0) _ rfl (setRow_heap _ _ _ _ _ _ HR1.out) Tryz.underlying43 rfl (by rw [size_rd]; rfl)) rfl ⟨rfl, ?_⟩
  exact below_setRow HBE.out (by omega)
theorem rfail_any (t : St) (k a : Int) (w : World) (hk : -9223372036854775808 ≤ k ∧ k ≤ 9223372036854775807) :
    Calls Tryz.prog 29 #[.agg (rdC t), .int .i64 k, .int .i64 a] w (RPost (failS t k a) w) := by
  by_cases h0 : t.k = 0
  · by_cases hc : 1 ≤ k ∧ k ≤ 18
    · obtain ⟨m, rfl⟩ : ∃ m : Nat, k = m := ⟨k.toNat, by omega⟩
      rw [fail_yes h0 (by omega) (by omega)]
      exact rfail_2 t m a w h0 (by omega) (by omega)
    · rw [fail_no (by omega)]
      exact rfail_3 t k a w hk h0 (by omega)
  · rw [fail_had h0]
    exact rfail_1 t k a w h0

theorem results_row_tmp {P : Program} {fn : Func} {p u : Tmp} {ty : TypeId} (h : fn.results = #[.cell p ty, .tmp u]) (tmps : Array Value) (w : World) (g : Nat) (t : TypeId) (cs : Array Value) (fr : Nat × Nat) (d : TypeDesc)
    (hp : tmps.getD p undef = .pointer (some ⟨g, 0, none⟩)) (hg : w.heap[g]? = some (.cells cs t fr))
    (hu : P.underlying ty = some d) (hd : (match d with | .struct _ | .array _ _ => true | _ => false) = true) (hi : (P.info? ty).map (·.size) = some cs.size) :
    (results fn tmps).run P w = .ok (.tuple #[.agg cs, tmps.getD u undef]) w := by
  have hp' : tmps[p]?.getD undef = .pointer (some ⟨g, 0, none⟩) := by simpa using hp
  simp [results, h, hp', asAddr, run_loadVar_row w g t ty cs fr d hg hu hd hi]
/-- What the document's Num tells. -/
def RNumPost (t : St) (v : Value) (w : World) (e : Ending) (w' : World) : Prop := e = .returned (.tuple #[.agg (rdC t), v]) ∧ Below w.heap.size w w'
theorem two_below (w : World) (o1 o2 : Obj) : Below w.heap.size w ((w.alloc o1).alloc o2) := ((Below.refl _ _).alloc (Nat.le_refl _) _).alloc (by simp) _
set_option maxRecDepth 4000 in
theorem rnum_1 (t : St) (n : Nat) (w : World) (h : t.k ≠ 0) :
    Calls Tryz.prog 28 #[.agg (rdC t), .int .i64 n] w (RNumPost t (.int .u64 0) w) := by
  have t1 : ((t.k : Int) == 0) = false := by simp; exact h
  have HB := Lib.hid (two_below w)
  clear h
  unfold rdC
  go_enter Tryz.func28, Tryz.ntmps28
  go_wp2
  exact bodyPost_ret (v := .tuple #[.agg (rdC t), .int .u64 0]) (by simp [results, Tryz.results28, go_sem, rdC]) rfl ⟨rfl, HB.out _ _⟩
set_option maxRecDepth 4000 in
theorem rnum_2 (t : St) (n : Nat) (w : World) (h : t.k = 0) (ho : Ok t) (h8 : n ≤ 8) (hg : getB t.s t.p n = true) :
    Calls Tryz.prog 28 #[.agg (rdC t), .int .i64 n] w (RNumPost { t with p := t.p + n } (.int .u64 (getV t.s t.p n)) w) := by
  have t1 : ((t.k : Int) == 0) = true := by simp; exact h
  have HG : Hid (∀ w, Calls Tryz.prog 42 #[.string t.s, .int .i64 t.p, .int .i64 n] w fun e w' => e = .returned (.tuple #[.int .u64 (getV t.s t.p n), .bool true]) ∧ w = w') := fun w => by
    have := rget_any t.s t.p n (by have := ho.1; have := ho.2; omega) (by have := ho.2; unfold maxLen; omega) w
    rwa [hg] at this
  have hle2 : (t.p : Int) + (n : Int) ≤ 1099511627776 := by have := ho.2; unfold getB at hg; simp at hg; omega
  have epn : Hid (((t.p + n : Nat) : Int) = (t.p : Int) + (n : Int)) := by show _ = _; omega
  obtain ⟨v, hv⟩ : ∃ v, getV t.s t.p n = v := ⟨_, rfl⟩
  rw [hv] at HG ⊢
  have HB := Lib.hid (two_below w)
  clear h ho hg hv
  unfold rdC
  go_enter Tryz.func28, Tryz.ntmps28
  go_wp2_with (go_at_call 42; refine (HG.out _).mono ?_; rintro e w' ⟨rfl, rfl⟩)
  exact bodyPost_ret (v := .tuple #[.agg (rdC { t with p := t.p + n }), .int .u64 v]) (by simp [results, Tryz.results28, go_sem, rdC]) rfl ⟨rfl, HB.out _ _⟩
set_option maxRecDepth 4000 in
theorem rnum_3 (t : St) (n : Nat) (w : World) (h : t.k = 0) (ho : Ok t) (h8 : n ≤ 8) (hg : getB t.s t.p n = false) :
    Calls Tryz.prog 28 #[.agg (rdC t), .int .i64 n] w (RNumPost (failS t 2 t.p) (.int .u64 0) w) := by
  have t1 : ((t.k : Int) == 0) = true := by simp; exact h
  have HG : Hid (∀ w, Calls Tryz.prog 42 #[.string t.s, .int .i64 t.p, .int .i64 n] w fun e w' => e = .returned (.tuple #[.int .u64 0, .bool false]) ∧ w = w') := fun w => by
    have := rget_any t.s t.p n (by have := ho.1; have := ho.2; omega) (by have := ho.2; unfold maxLen; omega) w
    rwa [hg, show getV t.s t.p n = 0 by unfold getV; rw [hg]; rfl] at this
  have HR := Lib.hid (fun w => rfail_any t 2 t.p w (by omega))
  obtain ⟨T, hT⟩ : ∃ T, failS t 2 t.p = T := ⟨_, rfl⟩
  rw [hT] at HR ⊢
  have HB := Lib.hid (two_below w)
  have HZ : Hid (∀ w1, Below ((w.alloc (.cells (rdC t) 43)).alloc (.cells rd0 43)).heap.size ((w.alloc (.cells (rdC t) 43)).alloc (.cells rd0 43)) w1 →
      Hid (w1.heap[w.heap.size + 1]? = some (.cells rd0 43 (0, 0))) ∧ Hid (Below w.heap.size w w1)) := by
    intro w1 hb
    exact ⟨(hb.block _ (by simp)).trans (by have := heap_alloc_new (w.alloc (.cells (rdC t) 43)) (.cells rd0 43); simpa using this), (two_below w _ _).trans (hb.mono (two_below w _ _).size)⟩
  clear h ho hg hT
  unfold rdC
  go_enter Tryz.func28, Tryz.ntmps28
  go_wp2_with (first
    | (go_at_call 42; refine (HG.out _).mono ?_; rintro e w' ⟨rfl, rfl⟩)
    | (go_at_call 29; refine (HR.out _).mono ?_; rintro e w1 ⟨rfl, hb⟩; obtain ⟨HR1, HBE⟩ := HZ.out w1 hb; clear hb)
    | ((with_reducible show wpList _ _ _ _ _ _); refine wpList_store_row rfl 43 (.tmp 4) (.tmp 27) rfl (w.heap.size + 1) (rdC T) rfl rfl 43 rd0 HR1.out (by rw [size_rd]; rfl) rfl (one_rd T) ?_))
  refine bodyPost_ret (v := .tuple #[.agg (rdC T), .int .u64 0]) (results_row_tmp (fn := Tryz.f28) (p := 4) (u := 5) (ty := 43) rfl _ _ (w.heap.size + 1) 43 _ (0, 0) _ rfl (setRow_heap _ _ _ _ _ _ HR1.out) Tryz.underlying43 rfl (by rw [size_rd]; rfl)) rfl ⟨rfl, ?_⟩
  exact below_setRow HBE.out (by omega)
theorem rnum_any (t : St) (n : Nat) (w : World) (ho : Ok t) (h8 : n ≤ 8) :
    Calls Tryz.prog 28 #[.agg (rdC t), .int .i64 n] w (RNumPost (numS t n) (.int .u64 (numV t n)) w) := by
  by_cases hk : t.k = 0
  · have e2 : numV t n = getV t.s t.p n := by unfold numV; rw [if_pos hk]
    cases hg : getB t.s t.p n with
    | true =>
      have e1 : numS t n = { t with p := t.p + n } := by unfold numS; rw [if_pos hk, hg]; rfl
      rw [e1, e2]
      exact rnum_2 t n w hk ho h8 hg
    | false =>
      have e1 : numS t n = failS t 2 t.p := by unfold numS; rw [if_pos hk, hg]; rfl
      have e3 : getV t.s t.p n = 0 := by unfold getV; rw [hg]; rfl
      rw [e1, e2, e3]
      exact rnum_3 t n w hk ho h8 hg
  · have e1 : numS t n = t := by unfold numS; rw [if_neg hk]
    have e2 : numV t n = 0 := by unfold numV; rw [if_neg hk]
    rw [e1, e2]
    exact rnum_1 t n w hk

end Go.Proofs.YtplllmfbpliciaaGreatDoor.Rdr
