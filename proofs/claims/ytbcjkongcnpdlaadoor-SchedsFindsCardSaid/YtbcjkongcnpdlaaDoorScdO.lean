
/- What the document reads of ticks, rows and counts of schedules: as the program does, where all is well; and where something is wrong the same is told. Condition: the reader stands within a text of at most 2 to the power 40 bytes. What the document reads of a count and so many rows of schedules: as the program does, where all is well; and where something is wrong the same is told. Condition: the reader stands within a text of at most 2 to the power 40 bytes. Words for what the document's Get of schedules makes in memory. It says nothing of the program's answers. No condition. What the document's Get of schedules reads: the same as the program's Read. Condition: the reader stands within a text of at most 2 to the power 40 bytes. What is read as schedules without fault is put as the very bytes. It says nothing of the program. No condition. -/

import Derived.Test.YtbcjkongcnpdlaaDoorScdM

import Derived.Test.YtbcjkongcnpdlaaDoorNamD

import Derived.Deep.RegionHeld3

import Derived.BigQuiet

import Derived.Deep.CutRange

namespace Go.Proofs.YtbcjkongcnpdlaaDoor.Scd

open Go.RowKit Go.PlainAid Go.Proofs.YtbcjkongcnpdlaaDoor.Oct Go.Proofs.YtbcjkongcnpdlaaDoor.Flt Go.Proofs.YtbcjkongcnpdlaaDoor.Rdr Go.Proofs.YtbcjkongcnpdlaaDoor.Act

set_option linter.unusedVariables false

set_option linter.unusedSimpArgs false

theorem facts_at {w w1 : World} {t : St} {o : Obj} (hb : Below (Nam.W0 w t).heap.size (Nam.W0 w t) w1) : (w1.alloc o).cell? ⟨w.heap.size, 1, none⟩ = some (.int .i64 t.p) := by
  have h : w1.heap[w.heap.size]? = some (.cells (rdC t) 44 (0, 0)) := (hb.block _ (by simp [Nam.W0]; omega)).trans ((heap_alloc_old _ _ (by simp)).trans (heap_alloc_new _ _))
  rw [cell_of_row _ _ _ _ _ _ ((heap_alloc_old _ _ (lt_of_block h)).trans h)]; rfl
set_option maxRecDepth 4000 in
set_option maxHeartbeats 400000 in
theorem tk_pass (t t1 t4 : St) (v : Nat) (least : Int) (w : World) (hv : v ≤ 4294967295) (hk : t1.k ≠ 0) (HNUM : Hid (∀ w, Calls Tryd.prog 34 #[.agg (rdC t), .int .i64 4] w (RNumPost t1 (.int .u64 v) w))) :
    Calls Tryd.prog 36 #[.agg (rdC t), .int .i64 least] w (RNumPost t1 (.int .i64 v) w) := by
  have tka : ((t1.k : Int) == 0) = false := by simp; exact hk
  clear hk
  have hw1 : IntKind.i64.wrap (v : Int) = v := IntWalk.i64_in _ (by omega)
  clear hv
  unfold rdC
  go_enter Tryd.func36, Tryd.ntmps36
  go_wp2_with (first
    | (go_at_call 34; refine (HNUM.out _).mono ?_; rintro e w1 ⟨rfl, hb⟩; obtain ⟨HR1, HBE, hz⟩ := Nam.facts_num hb; have HX1 := Lib.hid (heap_alloc_new w1 (.cells (rdC t1) 44)); have HRW := Lib.hid ((heap_alloc_old w1 (.cells (rdC t1) 44) hz).trans HR1.out); have HBW := Lib.hid (HBE.out.alloc HBE.out.size (.cells (rdC t1) 44)); have hp1 := facts_at (o := .cells (rdC t1) 44) hb; clear hb; dsimp only [rdC]; dsimp only [rdC] at hp1)
    | ((with_reducible show wpList _ _ _ _ _ _); refine wpList_load_row rfl 44 (.tmp 6) rfl (w1.heap.size) rfl 44 (rdC t1) (0, 0) _ HX1.out Tryd.underlying44 rfl (by rw [size_rd]; rfl) ?_)
    | ((with_reducible show wpList _ _ _ _ _ _); refine wpList_store_row rfl 44 (.tmp 4) (.tmp 28) rfl (w.heap.size + 1) (rdC t1) rfl rfl 44 (rd0) HRW.out (by rw [size_rd]; rfl) rfl (one_rd _) ?_))
  refine bodyPost_ret (v := .tuple #[.agg (rdC t1), .int .i64 v]) (results_row_tmp (fn := Tryd.f36) (p := 4) (u := 5) (ty := 44) rfl _ _ (w.heap.size + 1) 44 _ (0, 0) _ rfl (setRow_heap _ _ _ _ _ _ HRW.out) Tryd.underlying44 rfl (by rw [size_rd]; rfl)) rfl ⟨rfl, ?_⟩
  exact Hdr.below_set2 HBW.out (by omega)
set_option maxRecDepth 4000 in
set_option maxHeartbeats 400000 in
theorem tk_in (t t1 t4 : St) (v : Nat) (least : Int) (w : World) (hv : v ≤ 4294967295) (hk : t1.k = 0) (HIN : Hid (∀ w, Calls Tryd.prog 49 #[.int .i64 v, .int .i64 least, .int .i64 1048576] w fun e w' => e = .returned (.bool true) ∧ w = w')) (HNUM : Hid (∀ w, Calls Tryd.prog 34 #[.agg (rdC t), .int .i64 4] w (RNumPost t1 (.int .u64 v) w))) :
    Calls Tryd.prog 36 #[.agg (rdC t), .int .i64 least] w (RNumPost t1 (.int .i64 v) w) := by
  have tka : ((t1.k : Int) == 0) = true := by simp; exact hk
  clear hk
  have hw1 : IntKind.i64.wrap (v : Int) = v := IntWalk.i64_in _ (by omega)
  clear hv
  unfold rdC
  go_enter Tryd.func36, Tryd.ntmps36
  go_wp2_with (first
    | (go_at_call 34; refine (HNUM.out _).mono ?_; rintro e w1 ⟨rfl, hb⟩; obtain ⟨HR1, HBE, hz⟩ := Nam.facts_num hb; have HX1 := Lib.hid (heap_alloc_new w1 (.cells (rdC t1) 44)); have HRW := Lib.hid ((heap_alloc_old w1 (.cells (rdC t1) 44) hz).trans HR1.out); have HBW := Lib.hid (HBE.out.alloc HBE.out.size (.cells (rdC t1) 44)); have hp1 := facts_at (o := .cells (rdC t1) 44) hb; clear hb; dsimp only [rdC]; dsimp only [rdC] at hp1)
    | (go_at_call 49; refine (HIN.out _).mono ?_; rintro e w' ⟨rfl, rfl⟩)
    | ((with_reducible show wpList _ _ _ _ _ _); refine wpList_load_row rfl 44 (.tmp 6) rfl (w1.heap.size) rfl 44 (rdC t1) (0, 0) _ HX1.out Tryd.underlying44 rfl (by rw [size_rd]; rfl) ?_)
    | ((with_reducible show wpList _ _ _ _ _ _); refine wpList_store_row rfl 44 (.tmp 4) (.tmp 28) rfl (w.heap.size + 1) (rdC t1) rfl rfl 44 (rd0) HRW.out (by rw [size_rd]; rfl) rfl (one_rd _) ?_))
  refine bodyPost_ret (v := .tuple #[.agg (rdC t1), .int .i64 v]) (results_row_tmp (fn := Tryd.f36) (p := 4) (u := 5) (ty := 44) rfl _ _ (w.heap.size + 1) 44 _ (0, 0) _ rfl (setRow_heap _ _ _ _ _ _ HRW.out) Tryd.underlying44 rfl (by rw [size_rd]; rfl)) rfl ⟨rfl, ?_⟩
  exact Hdr.below_set2 HBW.out (by omega)
set_option maxRecDepth 4000 in
set_option maxHeartbeats 400000 in
theorem tk_out (t t1 t4 : St) (v : Nat) (least : Int) (w : World) (hv : v ≤ 4294967295) (hk : t1.k = 0) (HIN : Hid (∀ w, Calls Tryd.prog 49 #[.int .i64 v, .int .i64 least, .int .i64 1048576] w fun e w' => e = .returned (.bool false) ∧ w = w')) (HFAIL : Hid (∀ w, Calls Tryd.prog 35 #[.agg (rdC t1), .int .i64 18, .int .i64 t.p] w (RPost t4 w))) (HNUM : Hid (∀ w, Calls Tryd.prog 34 #[.agg (rdC t), .int .i64 4] w (RNumPost t1 (.int .u64 v) w))) :
    Calls Tryd.prog 36 #[.agg (rdC t), .int .i64 least] w (RNumPost t4 (.int .i64 0) w) := by
  have tka : ((t1.k : Int) == 0) = true := by simp; exact hk
  clear hk
  have hw1 : IntKind.i64.wrap (v : Int) = v := IntWalk.i64_in _ (by omega)
  clear hv
  unfold rdC
  go_enter Tryd.func36, Tryd.ntmps36
  go_wp2_with (first
    | (go_at_call 34; refine (HNUM.out _).mono ?_; rintro e w1 ⟨rfl, hb⟩; obtain ⟨HR1, HBE, hz⟩ := Nam.facts_num hb; have HX1 := Lib.hid (heap_alloc_new w1 (.cells (rdC t1) 44)); have HRW := Lib.hid ((heap_alloc_old w1 (.cells (rdC t1) 44) hz).trans HR1.out); have HBW := Lib.hid (HBE.out.alloc HBE.out.size (.cells (rdC t1) 44)); have hp1 := facts_at (o := .cells (rdC t1) 44) hb; clear hb; dsimp only [rdC]; dsimp only [rdC] at hp1)
    | (go_at_call 49; refine (HIN.out _).mono ?_; rintro e w' ⟨rfl, rfl⟩)
    | (go_at_call 35; refine (HFAIL.out _).mono ?_; rintro e w2 ⟨rfl, hb2⟩; have HR4 := Lib.hid ((hb2.block _ (lt_of_block HRW.out)).trans HRW.out); have HBE4 := Lib.hid (HBW.out.trans (hb2.mono HBW.out.size)); clear hb2)
    | ((with_reducible show wpList _ _ _ _ _ _); refine wpList_load_row rfl 44 (.tmp 6) rfl (w1.heap.size) rfl 44 (rdC t1) (0, 0) _ HX1.out Tryd.underlying44 rfl (by rw [size_rd]; rfl) ?_)
    | ((with_reducible show wpList _ _ _ _ _ _); refine wpList_store_row rfl 44 (.tmp 4) (.tmp 27) rfl (w.heap.size + 1) (rdC t4) rfl rfl 44 (rd0) HR4.out (by rw [size_rd]; rfl) rfl (one_rd _) ?_))
  refine bodyPost_ret (v := .tuple #[.agg (rdC t4), .int .i64 0]) (results_row_tmp (fn := Tryd.f36) (p := 4) (u := 5) (ty := 44) rfl _ _ (w.heap.size + 1) 44 _ (0, 0) _ rfl (setRow_heap _ _ _ _ _ _ HR4.out) Tryd.underlying44 rfl (by rw [size_rd]; rfl)) rfl ⟨rfl, ?_⟩
  exact Hdr.below_set2 HBE4.out (by omega)
theorem need_no (t : St) (k a : Int) {b : Bool} (h : b = false) : needS b t k a = failS t k a := by
  unfold needS; rw [if_neg (by rw [h]; simp)]
theorem need_bad {t : St} {b : Bool} {k a : Int} (h : t.k ≠ 0) : needS b t k a = t := by
  unfold needS; split
  · rfl
  · exact fail_had h
theorem fail_bad {t : St} {k a : Int} (h0 : t.k = 0) (hk : 1 ≤ k ∧ k ≤ 18) : (failS t k a).k ≠ 0 := by
  obtain ⟨m, rfl⟩ : ∃ m : Nat, k = m := ⟨k.toNat, by omega⟩
  rw [fail_yes h0 (by omega) (by omega)]
  show m ≠ 0
  omega
theorem in_tk (v : Nat) (least : Int) : inB v least 1048576 = tkB v least := rfl
/-- What the document's ticks tells: the reader behind it; the number, where all is well. -/
def TPost (t : St) (least : Int) (w : World) (e : Ending) (w' : World) : Prop := ∃ x : Nat, RNumPost (tkS t least) (.int .i64 x) w e w' ∧ x ≤ 4294967295 ∧ ((tkS t least).k = 0 → x = numV t 4)
theorem rticks_any (t : St) (least : Int) (w : World) (ho : Ok t) :
    Calls Tryd.prog 36 #[.agg (rdC t), .int .i64 least] w (TPost t least w) := by
  have HNUM := Lib.hid (fun w => rnum_any t 4 w ho (by omega))
  have hv := numV_lt t 4 (by omega)
  by_cases hk : (numS t 4).k = 0
  · have HIN := Lib.hid (fun w => within_any (numV t 4) least 1048576 w)
    rw [in_tk] at HIN
    cases hb : tkB (numV t 4) least with
    | true =>
      rw [hb] at HIN
      have e1 : tkS t least = numS t 4 := by unfold tkS; rw [need_so _ _ _ hb]
      refine (tk_in t (numS t 4) t (numV t 4) least w (by omega) hk HIN HNUM).mono ?_
      intro e w' h
      exact ⟨numV t 4, by rw [e1]; exact h, by omega, fun _ => rfl⟩
    | false =>
      rw [hb] at HIN
      have e1 : tkS t least = failS (numS t 4) 18 t.p := by unfold tkS; rw [need_no _ _ _ hb]
      have HFAIL := Lib.hid (fun w => rfail_any (numS t 4) 18 t.p w (by omega))
      refine (tk_out t (numS t 4) _ (numV t 4) least w (by omega) hk HIN HFAIL HNUM).mono ?_
      intro e w' h
      exact ⟨0, by rw [e1]; exact h, by omega, fun h => absurd h (by rw [e1]; exact fail_bad hk (by omega))⟩
  · have e1 : tkS t least = numS t 4 := by unfold tkS; exact need_bad hk
    refine (tk_pass t (numS t 4) t (numV t 4) least w (by omega) hk HNUM).mono ?_
    intro e w' h
    exact ⟨numV t 4, by rw [e1]; exact h, by omega, fun _ => rfl⟩
theorem results_row_row {P : Program} {fn : Func} {p q : Tmp} {ty tz : TypeId} (h : fn.results = #[.cell p ty, .cell q tz]) (tmps : Array Value) (w : World) (g : Nat) (t : TypeId) (cs : Array Value) (fr : Nat × Nat) (d : TypeDesc) (g2 : Nat) (t2 : TypeId) (cs2 : Array Value) (fr2 : Nat × Nat) (d2 : TypeDesc)
    (hp : tmps.getD p undef = .pointer (some ⟨g, 0, none⟩)) (hg : w.heap[g]? = some (.cells cs t fr))
    (hu : P.underlying ty = some d) (hd : (match d with | .struct _ | .array _ _ => true | _ => false) = true) (hi : (P.info? ty).map (·.size) = some cs.size)
    (hp2 : tmps.getD q undef = .pointer (some ⟨g2, 0, none⟩)) (hg2 : w.heap[g2]? = some (.cells cs2 t2 fr2))
    (hu2 : P.underlying tz = some d2) (hd2 : (match d2 with | .struct _ | .array _ _ => true | _ => false) = true) (hi2 : (P.info? tz).map (·.size) = some cs2.size) :
    (results fn tmps).run P w = .ok (.tuple #[.agg cs, .agg cs2]) w := by
  have hp' : tmps[p]?.getD undef = .pointer (some ⟨g, 0, none⟩) := by simpa using hp
  have hq' : tmps[q]?.getD undef = .pointer (some ⟨g2, 0, none⟩) := by simpa using hp2
  simp [results, h, hp', hq', asAddr, run_loadVar_row w g t ty cs fr d hg hu hd hi, run_loadVar_row w g2 t2 tz cs2 fr2 d2 hg2 hu2 hd2 hi2]
theorem size_ar : (Tryd.prog.info? 90).map (·.size) = some 3 := by kernel_rfl
theorem one_ar (a b c : Int) : (#[Value.int .i64 a, .int .i64 b, .int .i64 c] : Array Value).all (·.oneCell') = true := by simp [Value.oneCell']
abbrev W3 (w : World) (t : St) : World := ((w.alloc (.cells (rdC t) 44)).alloc (.cells rd0 44)).alloc (.cells #[.int .i64 0, .int .i64 0, .int .i64 0] 90)
/-- Within the document's row: the reader, the results' places. -/
structure F3 (u : St) (w W : World) : Prop where
  rd : W.heap[w.heap.size]? = some (.cells (rdC u) 44 (0, 0))
  res : W.heap[w.heap.size + 1]? = some (.cells rd0 44 (0, 0))
  arr : W.heap[w.heap.size + 2]? = some (.cells #[.int .i64 0, .int .i64 0, .int .i64 0] 90 (0, 0))
  below : Below w.heap.size w W
theorem F3.keep {u : St} {w W W' : World} (f : F3 u w W) (b : Below W.heap.size W W') : F3 u w W' :=
  ⟨(b.block _ (lt_of_block f.rd)).trans f.rd, (b.block _ (lt_of_block f.res)).trans f.res, (b.block _ (lt_of_block f.arr)).trans f.arr, f.below.trans (b.mono f.below.size)⟩
theorem F3.set {u : St} {w W : World} (f : F3 u w W) (v : St) : F3 v w (W.setRow w.heap.size (rdC v)) :=
  ⟨setRow_heap _ _ _ _ _ _ f.rd, (setRow_other _ _ _ _ (by omega)).trans f.res, (setRow_other _ _ _ _ (by omega)).trans f.arr, Hdr.below_set2 f.below (Nat.le_refl _)⟩
theorem F3.first {w w1 : World} {t : St} (hb : Below (W3 w t).heap.size (W3 w t) w1) : F3 t w w1 := by
  have h : F3 t w (W3 w t) := by
    refine ⟨?_, ?_, ?_, (two_below w _ _).alloc (by simp; omega) _⟩
    · exact (heap_alloc_old _ _ (by simp; omega)).trans ((heap_alloc_old _ _ (by simp)).trans (heap_alloc_new _ _))
    · exact (heap_alloc_old _ _ (by simp)).trans (Hdr.second_new w _ _)
    · have h := heap_alloc_new ((w.alloc (.cells (rdC t) 44)).alloc (.cells rd0 44)) (.cells #[.int .i64 0, .int .i64 0, .int .i64 0] 90)
      simpa using h
  exact h.keep hb
/-- What the document's row tells. -/
def RWPost (t : St) (w : World) (e : Ending) (w' : World) : Prop := ∃ a b c : Nat, RNumPost (rwS t) (.agg #[.int .i64 a, .int .i64 b, .int .i64 c]) w e w' ∧ ((rwS t).k = 0 → (⟨a, b, c⟩ : A3) = rwV t)
theorem tk_k0 {t : St} {least : Int} (h : (tkS t least).k = 0) : t.k = 0 := by
  by_cases h0 : t.k = 0
  · exact h0
  · exfalso
    have e : (tkS t least).k = t.k := by
      unfold tkS
      have e1 : numS t 4 = t := by unfold numS; rw [if_neg h0]
      rw [e1, need_bad h0]
    omega
set_option maxRecDepth 4000 in
set_option maxHeartbeats 800000 in
theorem rrow_any (t : St) (w : World) (ho : Ok t) :
    Calls Tryd.prog 68 #[.agg (rdC t)] w (RWPost t w) := by
  have HNUM := Lib.hid (fun w => rnum_any t 1 w ho (by omega))
  have hv := u8_le t
  have ho1 := ok_num ho 1
  have ho2 := ok_tk ho1 0
  have HT1 := Lib.hid (fun w => rticks_any (numS t 1) 0 w ho1)
  have HT2 := Lib.hid (fun w => rticks_any (tkS (numS t 1) 0) 0 w ho2)
  have HPO : Hid (∀ (a b c : Nat) (W : World), Below w.heap.size w W → a = numV t 1 → ((tkS (numS t 1) 0).k = 0 → b = numV (numS t 1) 4) → ((tkS (tkS (numS t 1) 0) 0).k = 0 → c = numV (tkS (numS t 1) 0) 4) → RWPost t w (.returned (.tuple #[.agg (rdC (tkS (tkS (numS t 1) 0) 0)), .agg #[.int .i64 a, .int .i64 b, .int .i64 c]])) W) := by
    intro a b c W hb ha hbb hc
    refine ⟨a, b, c, ⟨rfl, hb⟩, fun h => ?_⟩
    have h2 : (tkS (tkS (numS t 1) 0) 0).k = 0 := h
    rw [ha, hbb (tk_k0 h2), hc h2]
    rfl
  obtain ⟨t1, ht1⟩ : ∃ x, numS t 1 = x := ⟨_, rfl⟩
  rw [ht1] at HNUM HT1 HT2 HPO
  obtain ⟨v, hv'⟩ : ∃ x, numV t 1 = x := ⟨_, rfl⟩
  rw [hv'] at HNUM hv HPO
  unfold TPost at HT1 HT2
  obtain ⟨t2, ht2⟩ : ∃ x, tkS t1 0 = x := ⟨_, rfl⟩
  rw [ht2] at HT1 HT2 HPO
  obtain ⟨t3, ht3⟩ : ∃ x, tkS t2 0 = x := ⟨_, rfl⟩
  rw [ht3] at HT2 HPO
  have hw1 : IntKind.i64.wrap (v : Int) = v := IntWalk.i64_in _ (by omega)
  clear hv ho ho1 ho2 ht1 hv' ht2 ht3
  have HSR := Lib.hid size_rd
  unfold rdC
  go_enter Tryd.func68, Tryd.ntmps68
  go_wp2_with fail
  refine (HNUM.out _).mono ?_
  rintro e w1 ⟨rfl, hb⟩
  have HF1 := Lib.hid (F3.first hb)
  have HG1 := Lib.hid (HF1.out.set t1)
  clear hb HNUM
  go_wp2_with (first
    | ((with_reducible show wpList _ _ _ _ _ _); refine wpList_store_row rfl 44 (.tmp 1) (.tmp 10) rfl (w.heap.size) (rdC t1) rfl rfl 44 (rdC t) HF1.out.rd (by rw [size_rd]; rfl) rfl (one_rd _) ?_)
    | ((with_reducible show wpList _ _ _ _ _ _); refine wpList_load_row rfl 44 (.tmp 1) rfl (w.heap.size) rfl 44 (rdC t1) (0, 0) _ HG1.out.rd Tryd.underlying44 rfl (by rw [size_rd]; rfl) ?_))
  refine (HT1.out _).mono ?_
  rintro e w2 ⟨x1, ⟨rfl, hb⟩, hx1, hy1⟩
  have HF2 := Lib.hid (HG1.out.keep hb)
  have HG2 := Lib.hid (HF2.out.set t2)
  have HY1 := Lib.hid hy1
  clear hb HT1 HF1 HG1 hy1
  go_wp2_with (first
    | ((with_reducible show wpList _ _ _ _ _ _); refine wpList_store_row rfl 44 (.tmp 1) (.tmp 15) rfl (w.heap.size) (rdC t2) rfl rfl 44 (rdC t1) HF2.out.rd (by rw [size_rd]; rfl) rfl (one_rd _) ?_)
    | ((with_reducible show wpList _ _ _ _ _ _); refine wpList_load_row rfl 44 (.tmp 1) rfl (w.heap.size) rfl 44 (rdC t2) (0, 0) _ HG2.out.rd Tryd.underlying44 rfl (by rw [size_rd]; rfl) ?_))
  refine (HT2.out _).mono ?_
  rintro e w3 ⟨x2, ⟨rfl, hb⟩, hx2, hy2⟩
  have HF3 := Lib.hid (HG2.out.keep hb)
  have HG3 := Lib.hid (HF3.out.set t3)
  have HY2 := Lib.hid hy2
  have HR4 := Lib.hid (setRow_heap ((w3.setRow w.heap.size (rdC t3))) (w.heap.size + 1) rd0 (rdC t3) 44 (0, 0) HG3.out.res)
  have HA4 : Hid (((w3.setRow w.heap.size (rdC t3)).setRow (w.heap.size + 1) (rdC t3)).heap[w.heap.size + 2]? = some (.cells #[.int .i64 0, .int .i64 0, .int .i64 0] 90 (0, 0))) := (setRow_other _ _ _ _ (by omega)).trans HG3.out.arr
  clear hb HT2 HF2 HG2 hy2
  go_wp2_with (first
    | ((with_reducible show wpList _ _ _ _ _ _); refine wpList_store_row rfl 44 (.tmp 1) (.tmp 20) rfl (w.heap.size) (rdC t3) rfl rfl 44 (rdC t2) HF3.out.rd (by rw [size_rd]; rfl) rfl (one_rd _) ?_)
    | ((with_reducible show wpList _ _ _ _ _ _); refine wpList_load_row rfl 44 (.tmp 1) rfl (w.heap.size) rfl 44 (rdC t3) (0, 0) _ HG3.out.rd Tryd.underlying44 rfl (by rw [size_rd]; rfl) ?_)
    | ((with_reducible show wpList _ _ _ _ _ _); refine wpList_store_row rfl 44 (.tmp 2) (.tmp 22) rfl (w.heap.size + 1) (rdC t3) rfl rfl 44 (rd0) HG3.out.res (by rw [size_rd]; rfl) rfl (one_rd _) ?_)
    | ((with_reducible show wpList _ _ _ _ _ _); refine wpList_store_row rfl 90 (.tmp 3) (.tmp 27) rfl (w.heap.size + 2) (#[.int .i64 v, .int .i64 x1, .int .i64 x2]) rfl rfl 90 (#[.int .i64 0, .int .i64 0, .int .i64 0]) HA4.out (by rw [size_ar]; rfl) rfl (one_ar _ _ _) ?_))
  have HR5 : Hid ((((w3.setRow w.heap.size (rdC t3)).setRow (w.heap.size + 1) (rdC t3)).setRow (w.heap.size + 2) #[.int .i64 v, .int .i64 x1, .int .i64 x2]).heap[w.heap.size + 1]? = some (.cells (rdC t3) 44 (0, 0))) := (setRow_other _ _ _ _ (by omega)).trans HR4.out
  refine bodyPost_ret (v := .tuple #[.agg (rdC t3), .agg #[.int .i64 v, .int .i64 x1, .int .i64 x2]]) (results_row_row (fn := Tryd.f68) (p := 2) (q := 3) (ty := 44) (tz := 90) rfl _ _ (w.heap.size + 1) 44 _ (0, 0) _ (w.heap.size + 2) 90 _ (0, 0) _ rfl HR5.out Tryd.underlying44 rfl (by rw [size_rd]; rfl) rfl (setRow_heap _ _ _ _ _ _ HA4.out) Tryd.underlying90 rfl (by rw [size_ar]; rfl)) rfl (HPO.out _ _ _ _ ?_ rfl HY1.out HY2.out)
  exact Hdr.below_set2 (Hdr.below_set2 HG3.out.below (by omega)) (by omega)
end Go.Proofs.YtbcjkongcnpdlaaDoor.Scd

namespace Go.Proofs.YtbcjkongcnpdlaaDoor.Scd

open Go.RowKit Go.PlainAid Go.Proofs.YtbcjkongcnpdlaaDoor.Oct Go.Proofs.YtbcjkongcnpdlaaDoor.Flt Go.Proofs.YtbcjkongcnpdlaaDoor.Rdr Go.Proofs.YtbcjkongcnpdlaaDoor.Act

set_option linter.unusedVariables false

set_option linter.unusedSimpArgs false

theorem rwS_bad {t : St} (h : t.k ≠ 0) : rwS t = t := by
  have e1 : numS t 1 = t := by unfold numS; rw [if_neg h]
  have e4 : numS t 4 = t := by unfold numS; rw [if_neg h]
  have e2 : tkS t 0 = t := by unfold tkS; rw [e4, need_bad h]
  unfold rwS; rw [e1, e2, e2]
theorem rwN_stay (t : St) (i : Nat) (h : (rwN t i).1.k ≠ 0) : ∀ j, (rwN t (i + j)).1 = (rwN t i).1
  | 0 => rfl
  | j + 1 => by
    have := rwN_stay t i h j
    rw [show i + (j + 1) = (i + j) + 1 by omega, rwN, this, rwS_bad h]
theorem own_no {w : World} {B n : Nat} {T : TypeId} {V : Value} {xs : List Value} {X : Nat} {cs : Array Value} (hT : T ≠ 44) (h : w.ownsRow B T 3 V n xs) (hx : w.heap[X]? = some (.cells cs 44 (0, 0))) : ∀ k, V.ownBlock = some k → k ≠ X := by
  intro k hk e
  obtain ⟨c2, e2⟩ := Prt.own_block h hk
  rw [e, hx] at e2
  simp only [Option.some.injEq, Obj.cells.injEq] at e2
  exact absurd e2.2.1.symm hT
theorem ar_rd : 90 ≠ 44 := by decide
theorem just_row (w : World) (X : Nat) (cs : Array Value) : Just X w (w.setRow X cs) := ⟨rfl, rfl, rfl, (by simp), fun k _ hne => setRow_other _ _ _ _ hne⟩
/-- Within the document's many: its reader, the result's place, the rows. -/
structure MR (X : Nat) (u : St) (l : List A3) (V : Value) (w wr : World) : Prop where
  x : wr.heap[X]? = some (.cells (rdC u) 44 (0, 0))
  res : wr.heap[w.heap.size + 1]? = some (.cells rd0 44 (0, 0))
  own : wr.ownsRow (w.heap.size + 2) 90 3 V l.length (flatA l)
  hx : w.heap.size + 1 < X
  below : Below w.heap.size w wr
theorem MR.keep {X : Nat} {u : St} {l : List A3} {V : Value} {w wr w' : World} (f : MR X u l V w wr) (b : Below wr.heap.size wr w') : MR X u l V w w' :=
  ⟨(b.block _ (lt_of_block f.x)).trans f.x, (b.block _ (lt_of_block f.res)).trans f.res, row_beside f.own (Just.of_below (g := wr.heap.size) b) (fun k hk => by have := (f.own.lt k hk).2; omega), f.hx, f.below.trans (b.mono f.below.size)⟩
theorem MR.setx {X : Nat} {u : St} {l : List A3} {V : Value} {w wr : World} (f : MR X u l V w wr) (v : St) : MR X v l V w (wr.setRow X (rdC v)) :=
  have j := just_row wr X (rdC v)
  have h := f.hx
  ⟨setRow_heap _ _ _ _ _ _ f.x, (setRow_other _ _ _ _ (by omega)).trans f.res, row_beside f.own j (own_no ar_rd f.own f.x), f.hx, Hdr.below_set2 f.below (by omega)⟩
theorem MR.grown {X : Nat} {u : St} {x : A3} {l : List A3} {V V' : Value} {w wr w' : World} (f : MR X u l V w wr) (hg : wr.grownBy w' V.ownBlock) (n : Nat) (hn : n = (l ++ [x]).length) (ho : w'.ownsRow (w.heap.size + 2) 90 3 V' n (flatA l ++ actL x)) : MR X u (l ++ [x]) V' w w' := by
  refine ⟨(hg.block _ (lt_of_block f.x) (fun e => own_no ar_rd f.own f.x _ e.symm rfl)).trans f.x, (hg.block _ (lt_of_block f.res) (fun e => own_no ar_rd f.own f.res _ e.symm rfl)).trans f.res, by rw [← hn, flatA_snoc]; exact ho, f.hx, f.below.grown hg f.below.size (fun j hj => by have := (f.own.lt j hj).1; omega)⟩
theorem MR.cell {X : Nat} {u : St} {l : List A3} {V : Value} {w wr : World} (f : MR X u l V w wr) : wr.cell? ⟨X, 3, none⟩ = some (.int .i64 u.k) := by rw [cell_of_row _ _ _ _ _ _ f.x]; rfl
/-- What the document's many tells: the reader behind it, and rows: those of the count, where all is well. -/
def MPost (t u : St) (v : Nat) (w : World) (e : Ending) (w' : World) : Prop := ∃ (l : List A3) (V : Value), e = .returned (.tuple #[.agg (rdC u), V]) ∧ w'.ownsRow w.heap.size 90 3 V l.length (flatA l) ∧ l.length ≤ v ∧ (u.k = 0 → l = (rwN t v).2) ∧ Below w.heap.size w w'
def NUMP (t t1 : St) (n v : Nat) : Prop := ∀ w, Calls Tryd.prog 34 #[.agg (rdC t), .int .i64 n] w (RNumPost t1 (.int .u64 v) w)
set_option maxRecDepth 4000 in
set_option maxHeartbeats 800000 in
theorem mn_out (t t1 t4 : St) (n v : Nat) (most : Int) (w : World) (hv : v ≤ 65535) (hk : t1.k = 0) (hm : most < v) (HNUM : Hid (NUMP t t1 n v)) (HFAIL : Hid (∀ w, Calls Tryd.prog 35 #[.agg (rdC t1), .int .i64 8, .int .i64 t.p] w (RPost t4 w))) :
    Calls Tryd.prog 37 #[.agg (rdC t), .int .i64 n, .int .i64 most] w (RNumPost t4 (.slice none 0 0) w) := by
  have tka : ((t1.k : Int) == 0) = true := by simp; exact hk
  have tkb : decide (most < (v : Int)) = true := decide_eq_true hm
  have hw1 : IntKind.i64.wrap (v : Int) = v := IntWalk.i64_in _ (by omega)
  unfold NUMP at HNUM
  clear hv hk hm
  unfold rdC
  go_enter Tryd.func37, Tryd.ntmps37
  go_wp2_with fail
  refine (HNUM.out _).mono ?_
  rintro e w1 ⟨rfl, hb⟩
  obtain ⟨HR1, HBE, hz⟩ := Nam.facts_num hb
  have HX1 := Lib.hid (heap_alloc_new w1 (.cells (rdC t1) 44))
  have HRW := Lib.hid ((heap_alloc_old w1 (.cells (rdC t1) 44) hz).trans HR1.out)
  have HBW := Lib.hid (HBE.out.alloc HBE.out.size (.cells (rdC t1) 44))
  have hp1 := facts_at (o := .cells (rdC t1) 44) hb
  clear hb
  dsimp only [rdC]
  dsimp only [rdC] at hp1
  go_wp2_with fail
  refine (HFAIL.out _).mono ?_
  rintro e w2 ⟨rfl, hb2⟩
  have HR4 := Lib.hid ((hb2.block _ (lt_of_block HRW.out)).trans HRW.out)
  have HBE4 := Lib.hid (HBW.out.trans (hb2.mono HBW.out.size))
  clear hb2
  go_wp2_with (first
    | ((with_reducible show wpList _ _ _ _ _ _); refine wpList_store_row rfl 44 (.tmp 6) (.tmp 33) rfl (w.heap.size + 1) (rdC t4) rfl rfl 44 (rd0) HR4.out (by rw [size_rd]; rfl) rfl (one_rd _) ?_))
  refine bodyPost_ret (v := .tuple #[.agg (rdC t4), .slice none 0 0]) (results_row_tmp (fn := Tryd.f37) (p := 6) (u := 7) (ty := 44) rfl _ _ (w.heap.size + 1) 44 _ (0, 0) _ rfl (setRow_heap _ _ _ _ _ _ HR4.out) Tryd.underlying44 rfl (by rw [size_rd]; rfl)) rfl ⟨rfl, ?_⟩
  exact Hdr.below_set2 HBE4.out (by omega)
def MRel (X : Nat) (t1 : St) (v : Nat) (w : World) (o i : Value) (wr : World) : Prop :=
  ∃ (k : Nat) (l : List A3), k ≤ v ∧ i = .int .i64 k ∧ l.length ≤ k ∧ ((rwN t1 k).1.k = 0 → l = (rwN t1 k).2) ∧ MR X (rwN t1 k).1 l o w wr
theorem infoAR : (Tryd.prog.info? 90).map (fun i => (i.zero, i.size, i.bytes)) = some (some (.agg #[.int .i64 0, .int .i64 0, .int .i64 0]), 3, 24) := by kernel_rfl
theorem owns_empty3 (w : World) : (w.alloc (.cells #[] 90)).ownsRow w.heap.size 90 3 (.slice (some ⟨w.heap.size, 0, none⟩) 0 0) 0 [] :=
  ⟨rfl, .inr ⟨_, 0, #[], rfl, Nat.le_refl _, heap_alloc_new _ _, by simp⟩⟩
set_option maxRecDepth 8000 in
set_option maxHeartbeats 3200000 in
theorem mn_bad (t t1 : St) (n v : Nat) (most : Int) (w : World) (hv : v ≤ 65535) (ho : Ok t1) (hk : t1.k ≠ 0) (HNUM : Hid (NUMP t t1 n v)) :
    Calls Tryd.prog 37 #[.agg (rdC t), .int .i64 n, .int .i64 most] w (MPost t1 (rwN t1 v).1 v w) := by
  obtain ⟨i0, hi, hz0, hz1, hz2⟩ := info_parts infoAR
  have HOK := Lib.hid (fun i => ok_rwN ho i)
  have tka : ((t1.k : Int) == 0) = false := by simp; exact hk
  have hw1 : IntKind.i64.wrap (v : Int) = v := IntWalk.i64_in _ (by omega)
  have HV : Hid (v ≤ 65535) := hv
  unfold NUMP at HNUM
  clear hv ho hk
  unfold rdC
  go_enter Tryd.func37, Tryd.ntmps37
  go_wp2_with fail
  refine (HNUM.out _).mono ?_
  rintro e w1 ⟨rfl, hb⟩
  obtain ⟨HR1, HBE, hz⟩ := Nam.facts_num hb
  have HM0 : Hid (MR w1.heap.size t1 [] (.slice (some ⟨w1.heap.size + 1, 0, none⟩) 0 0) w ((w1.alloc (.cells (rdC t1) 44)).alloc (.cells #[] 90))) := by
    refine ⟨(heap_alloc_old _ _ (by simp)).trans (heap_alloc_new _ _), (heap_alloc_old _ _ (by simp; omega)).trans ((heap_alloc_old _ _ hz).trans HR1.out), ?_, hz, (HBE.out.alloc HBE.out.size _).alloc (by have := HBE.out.size; simp; omega) _⟩
    have h := owns_empty3 (w1.alloc (.cells (rdC t1) 44))
    simp only [World.size_alloc] at h
    exact row_base h (by omega)
  clear hb HR1 HBE hz HNUM
  obtain ⟨X, hX⟩ : ∃ X, w1.heap.size = X := ⟨_, rfl⟩
  rw [hX] at HM0
  dsimp only [rdC]
  dsimp only [rdC] at HM0
  go_wp2_with fail
  go_loopw [10, 11] (fun o i wr => MRel X t1 v w o i wr) (fun _ i _ => v - (intOf i).toNat)
  case atStart => exact ⟨0, [], Nat.zero_le _, rfl, Nat.le_refl _, fun _ => rfl, HM0.out⟩
  case round =>
    obtain ⟨k, l, hk, rfl, hlk, hll, hm⟩ := hrel
    have HM := Lib.hid hm
    have HLK := Lib.hid hlk
    have HLL := Lib.hid hll
    clear hm hlk hll HM0
    have hq3 := HM.out.cell
    by_cases hlt : k < v
    · have hkn : (k : Int) < v := by omega
      by_cases hk0 : (rwN t1 k).1.k = 0
      · have HNX : Hid (rwN t1 (k + 1) = (rwS (rwN t1 k).1, (rwN t1 k).2 ++ [rwV (rwN t1 k).1])) := by show _ = _; rw [rwN]
        have HRO := Lib.hid (fun w => rrow_any (rwN t1 k).1 w (HOK.out k))
        have HLE := Lib.hid (HLL.out hk0)
        obtain ⟨u, hu⟩ : ∃ x, (rwN t1 k).1 = x := ⟨_, rfl⟩
        rw [hu] at HM HNX HRO hk0 hq3
        have tku : ((u.k : Int) == 0) = true := by simp; exact hk0
        unfold RWPost at HRO
        obtain ⟨u2, hu2⟩ : ∃ x, rwS u = x := ⟨_, rfl⟩
        rw [hu2] at HRO HNX
        clear hk0 hu hu2 HLL
        go_wp2_with (first
    | ((with_reducible show wpList _ _ _ _ _ _); refine wpList_load_row rfl 44 (.tmp 8) rfl (X) rfl 44 (rdC u) (0, 0) _ HM.out.x Tryd.underlying44 rfl (by rw [size_rd]; rfl) ?_))
        refine (HRO.out _).mono ?_
        rintro e w3 ⟨a, b, c, ⟨rfl, hb3⟩, hv3⟩
        have HV3 := Lib.hid hv3
        have HM3 := Lib.hid (HM.out.keep hb3)
        have HW4 : Hid (((w3.alloc (.cells (rdC u2) 44)).alloc (.cells #[.int .i64 a, .int .i64 b, .int .i64 c] 90)).heap[w3.heap.size]? = some (.cells (rdC u2) 44 (0, 0))) := (heap_alloc_old _ _ (by simp)).trans (heap_alloc_new _ _)
        have HA4 : Hid (((w3.alloc (.cells (rdC u2) 44)).alloc (.cells #[.int .i64 a, .int .i64 b, .int .i64 c] 90)).heap[w3.heap.size + 1]? = some (.cells #[.int .i64 a, .int .i64 b, .int .i64 c] 90 (0, 0))) := Hdr.second_new w3 _ _
        have HM4 := Lib.hid (HM3.out.keep (two_below w3 (.cells (rdC u2) 44) (.cells #[.int .i64 a, .int .i64 b, .int .i64 c] 90)))
        clear hb3 hv3 HRO HM3 hq3
        dsimp only [rdC]
        go_upto_region 9 with fail
        obtain ⟨K3, hK3⟩ : ∃ K, w3.heap.size = K := ⟨_, rfl⟩
        obtain ⟨W4, hW4⟩ : ∃ W, ((w3.alloc (.cells (rdC u2) 44)).alloc (.cells #[.int .i64 a, .int .i64 b, .int .i64 c] 90)) = W := ⟨_, rfl⟩
        rw [hK3, hW4] at HW4 HA4
        rw [hW4] at HM4
        unfold rdC at hW4
        rw [hW4, hK3]
        clear hK3 hW4
        have HM5 := Lib.hid (HM4.out.setx u2)
        have HA5 : Hid ((W4.setRow X (rdC u2)).heap[K3 + 1]? = some (.cells #[.int .i64 a, .int .i64 b, .int .i64 c] 90 (0, 0))) := (setRow_other _ _ _ _ (fun e => by have h1 := HM4.out.x; have h2 := HA4.out; rw [e, h1] at h2; simp only [Option.some.injEq, Obj.cells.injEq] at h2; exact absurd h2.2.1.symm ar_rd)).trans HA4.out
        have HM6 := Lib.hid (HM5.out.keep ((Below.refl _ _).alloc (Nat.le_refl _) (.cells #[.int .i64 a, .int .i64 b, .int .i64 c] 90)))
        go_wp2_with (first
    | ((with_reducible show wpList _ _ _ _ _ _); refine wpList_load_row rfl 44 (.tmp 12) rfl (K3) rfl 44 (rdC u2) (0, 0) _ HW4.out Tryd.underlying44 rfl (by rw [size_rd]; rfl) ?_)
    | ((with_reducible show wpList _ _ _ _ _ _); refine wpList_store_row rfl 44 (.tmp 8) (.tmp 52) rfl (X) (rdC u2) rfl rfl 44 (rdC u) HM4.out.x (by rw [size_rd]; rfl) rfl (one_rd _) ?_)
    | ((with_reducible show wpList _ _ _ _ _ _); refine wpList_load_row rfl 90 (.tmp 13) rfl (K3 + 1) rfl 90 (#[.int .i64 a, .int .i64 b, .int .i64 c]) (0, 0) _ HA5.out Tryd.underlying90 rfl (by rw [size_ar]; rfl) ?_)
          | (at_builtin; refine wpList_append_own _ rfl _ _ 87 rfl (w.heap.size + 2) 90 i0 (.agg #[.int .i64 0, .int .i64 0, .int .i64 0]) 3 24 Tryd.underlying87 hi hz0 hz1 hz2 rfl (by decide) _ l.length _ rfl HM6.out.own ⟨W4.heap.size, 0, none⟩ 1 1 [.int .i64 a, .int .i64 b, .int .i64 c] rfl rfl ?c1 ?c2 ?c3 ?c4 ?c5 ?_))
        case c1 =>
          intro j q hj
          have hrow := heap_alloc_new (W4.setRow X (rdC u2)) (.cells #[.int .i64 a, .int .i64 b, .int .i64 c] 90)
          simp only [size_setRow] at hrow
          have e : (Addr.mk W4.heap.size 0 none).add j = ⟨W4.heap.size, j, none⟩ := by cases j <;> simp [Addr.add]
          rw [e, cell_of_row _ _ _ _ _ _ hrow, ← hj]
          simp
        case c2 => intro q hq; simp at hq; rcases hq with rfl | rfl | rfl <;> rfl
        case c3 => have := HLK.out; have := HV.out; unfold maxLen; omega
        case c4 => have := HLK.out; have := HV.out; omega
        case c5 => have h1 := HM6.out.hx; have h2 := lt_of_block HM6.out.x; omega
        intro v' w7 ho7 hg7 _
        have HM7 := Lib.hid (HM6.out.grown (x := ⟨a, b, c⟩) hg7 (l.length + 1) (by simp) ho7)
        clear ho7 hg7
        have hk1 : IntKind.i64.wrap ((k : Int) + 1) = (k : Int) + 1 := IntWalk.i64_in _ (by have := HV.out; omega)
        go_wp2
        go_roundw
        case rel => exact ⟨k + 1, l ++ [⟨a, b, c⟩], by omega, by go_num, (by have := HLK.out; simp; omega), (fun h => by
          rw [HNX.out] at h ⊢
          show l ++ _ = (rwN t1 k).2 ++ _
          rw [← HLE.out, HV3.out h]), by rw [HNX.out]; exact HM7.out⟩
        case measure => simp [intOf]; omega
      · have HST := Lib.hid (rwN_stay t1 k hk0 (v - k))
        rw [show k + (v - k) = v by omega] at HST
        have HPO : Hid (∀ W : World, W.ownsRow (w.heap.size + 2) 90 3 u10 l.length (flatA l) → Below w.heap.size w W → MPost t1 (rwN t1 v).1 v w (.returned (.tuple #[.agg (rdC (rwN t1 k).1), u10])) W) := fun W h b => ⟨l, u10, by rw [HST.out], row_base h (by omega), by have := HLK.out; omega, fun h => absurd (by rw [← HST.out]; exact h) hk0, b⟩
        obtain ⟨u, hu⟩ : ∃ x, (rwN t1 k).1 = x := ⟨_, rfl⟩
        rw [hu] at HM hk0 hq3 HPO
        have tku : ((u.k : Int) == 0) = false := by simp; exact hk0
        clear hk0 hu HLL HST
        have HFN := Lib.hid (setRow_heap _ _ _ (rdC u) _ _ HM.out.res)
        go_wp2_with (first
    | ((with_reducible show wpList _ _ _ _ _ _); refine wpList_load_row rfl 44 (.tmp 8) rfl (X) rfl 44 (rdC u) (0, 0) _ HM.out.x Tryd.underlying44 rfl (by rw [size_rd]; rfl) ?_)
    | ((with_reducible show wpList _ _ _ _ _ _); refine wpList_store_row rfl 44 (.tmp 6) (.tmp 57) rfl (w.heap.size + 1) (rdC u) rfl rfl 44 (rd0) HM.out.res (by rw [size_rd]; rfl) rfl (one_rd _) ?_))
        refine bodyPost_ret (v := .tuple #[.agg (rdC u), u10]) (results_row_tmp (fn := Tryd.f37) (p := 6) (u := 7) (ty := 44) rfl _ _ (w.heap.size + 1) 44 _ (0, 0) _ rfl HFN.out Tryd.underlying44 rfl (by rw [size_rd]; rfl)) rfl (HPO.out _ (row_beside HM.out.own (just_row _ _ _) (own_no ar_rd HM.out.own HM.out.res)) (Hdr.below_set2 HM.out.below (by omega)))
    · obtain rfl : k = v := by omega
      have hkn : ¬ (k : Int) < k := by omega
      have hkn2 : ¬ k < k := by omega
      obtain ⟨u, hu⟩ : ∃ x, (rwN t1 k).1 = x := ⟨_, rfl⟩
      have HPO : Hid (∀ W : World, W.ownsRow (w.heap.size + 2) 90 3 u10 l.length (flatA l) → Below w.heap.size w W → MPost t1 (rwN t1 k).1 k w (.returned (.tuple #[.agg (rdC u), u10])) W) := fun W h b => ⟨l, u10, by rw [hu], row_base h (by omega), HLK.out, HLL.out, b⟩
      rw [hu] at HM hq3
      clear hu HLL
      have HFN := Lib.hid (setRow_heap _ _ _ (rdC u) _ _ HM.out.res)
      go_wp2_with (first
    | ((with_reducible show wpList _ _ _ _ _ _); refine wpList_load_row rfl 44 (.tmp 8) rfl (X) rfl 44 (rdC u) (0, 0) _ HM.out.x Tryd.underlying44 rfl (by rw [size_rd]; rfl) ?_)
    | ((with_reducible show wpList _ _ _ _ _ _); refine wpList_store_row rfl 44 (.tmp 6) (.tmp 57) rfl (w.heap.size + 1) (rdC u) rfl rfl 44 (rd0) HM.out.res (by rw [size_rd]; rfl) rfl (one_rd _) ?_))
      refine bodyPost_ret (v := .tuple #[.agg (rdC u), u10]) (results_row_tmp (fn := Tryd.f37) (p := 6) (u := 7) (ty := 44) rfl _ _ (w.heap.size + 1) 44 _ (0, 0) _ rfl HFN.out Tryd.underlying44 rfl (by rw [size_rd]; rfl)) rfl (HPO.out _ (row_beside HM.out.own (just_row _ _ _) (own_no ar_rd HM.out.own HM.out.res)) (Hdr.below_set2 HM.out.below (by omega)))
set_option maxRecDepth 8000 in
set_option maxHeartbeats 3200000 in
theorem mn_good (t t1 : St) (n v : Nat) (most : Int) (w : World) (hv : v ≤ 65535) (ho : Ok t1) (hk : t1.k = 0) (hm : (v : Int) ≤ most) (HNUM : Hid (NUMP t t1 n v)) :
    Calls Tryd.prog 37 #[.agg (rdC t), .int .i64 n, .int .i64 most] w (MPost t1 (rwN t1 v).1 v w) := by
  obtain ⟨i0, hi, hz0, hz1, hz2⟩ := info_parts infoAR
  have HOK := Lib.hid (fun i => ok_rwN ho i)
  have tka : ((t1.k : Int) == 0) = true := by simp; exact hk
  have tkb : decide (most < (v : Int)) = false := decide_eq_false (by omega)
  have hw1 : IntKind.i64.wrap (v : Int) = v := IntWalk.i64_in _ (by omega)
  have HV : Hid (v ≤ 65535) := hv
  unfold NUMP at HNUM
  clear hv ho hk
  unfold rdC
  go_enter Tryd.func37, Tryd.ntmps37
  go_wp2_with fail
  refine (HNUM.out _).mono ?_
  rintro e w1 ⟨rfl, hb⟩
  obtain ⟨HR1, HBE, hz⟩ := Nam.facts_num hb
  have HM0 : Hid (MR w1.heap.size t1 [] (.slice (some ⟨w1.heap.size + 1, 0, none⟩) 0 0) w ((w1.alloc (.cells (rdC t1) 44)).alloc (.cells #[] 90))) := by
    refine ⟨(heap_alloc_old _ _ (by simp)).trans (heap_alloc_new _ _), (heap_alloc_old _ _ (by simp; omega)).trans ((heap_alloc_old _ _ hz).trans HR1.out), ?_, hz, (HBE.out.alloc HBE.out.size _).alloc (by have := HBE.out.size; simp; omega) _⟩
    have h := owns_empty3 (w1.alloc (.cells (rdC t1) 44))
    simp only [World.size_alloc] at h
    exact row_base h (by omega)
  clear hb HR1 HBE hz HNUM
  obtain ⟨X, hX⟩ : ∃ X, w1.heap.size = X := ⟨_, rfl⟩
  rw [hX] at HM0
  dsimp only [rdC]
  dsimp only [rdC] at HM0
  go_wp2_with fail
  go_loopw [10, 11] (fun o i wr => MRel X t1 v w o i wr) (fun _ i _ => v - (intOf i).toNat)
  case atStart => exact ⟨0, [], Nat.zero_le _, rfl, Nat.le_refl _, fun _ => rfl, HM0.out⟩
  case round =>
    obtain ⟨k, l, hk, rfl, hlk, hll, hm⟩ := hrel
    have HM := Lib.hid hm
    have HLK := Lib.hid hlk
    have HLL := Lib.hid hll
    clear hm hlk hll HM0
    have hq3 := HM.out.cell
    by_cases hlt : k < v
    · have hkn : (k : Int) < v := by omega
      by_cases hk0 : (rwN t1 k).1.k = 0
      · have HNX : Hid (rwN t1 (k + 1) = (rwS (rwN t1 k).1, (rwN t1 k).2 ++ [rwV (rwN t1 k).1])) := by show _ = _; rw [rwN]
        have HRO := Lib.hid (fun w => rrow_any (rwN t1 k).1 w (HOK.out k))
        have HLE := Lib.hid (HLL.out hk0)
        obtain ⟨u, hu⟩ : ∃ x, (rwN t1 k).1 = x := ⟨_, rfl⟩
        rw [hu] at HM HNX HRO hk0 hq3
        have tku : ((u.k : Int) == 0) = true := by simp; exact hk0
        unfold RWPost at HRO
        obtain ⟨u2, hu2⟩ : ∃ x, rwS u = x := ⟨_, rfl⟩
        rw [hu2] at HRO HNX
        clear hk0 hu hu2 HLL
        go_wp2_with (first
    | ((with_reducible show wpList _ _ _ _ _ _); refine wpList_load_row rfl 44 (.tmp 8) rfl (X) rfl 44 (rdC u) (0, 0) _ HM.out.x Tryd.underlying44 rfl (by rw [size_rd]; rfl) ?_))
        refine (HRO.out _).mono ?_
        rintro e w3 ⟨a, b, c, ⟨rfl, hb3⟩, hv3⟩
        have HV3 := Lib.hid hv3
        have HM3 := Lib.hid (HM.out.keep hb3)
        have HW4 : Hid (((w3.alloc (.cells (rdC u2) 44)).alloc (.cells #[.int .i64 a, .int .i64 b, .int .i64 c] 90)).heap[w3.heap.size]? = some (.cells (rdC u2) 44 (0, 0))) := (heap_alloc_old _ _ (by simp)).trans (heap_alloc_new _ _)
        have HA4 : Hid (((w3.alloc (.cells (rdC u2) 44)).alloc (.cells #[.int .i64 a, .int .i64 b, .int .i64 c] 90)).heap[w3.heap.size + 1]? = some (.cells #[.int .i64 a, .int .i64 b, .int .i64 c] 90 (0, 0))) := Hdr.second_new w3 _ _
        have HM4 := Lib.hid (HM3.out.keep (two_below w3 (.cells (rdC u2) 44) (.cells #[.int .i64 a, .int .i64 b, .int .i64 c] 90)))
        clear hb3 hv3 HRO HM3 hq3
        dsimp only [rdC]
        go_upto_region 9 with fail
        obtain ⟨K3, hK3⟩ : ∃ K, w3.heap.size = K := ⟨_, rfl⟩
        obtain ⟨W4, hW4⟩ : ∃ W, ((w3.alloc (.cells (rdC u2) 44)).alloc (.cells #[.int .i64 a, .int .i64 b, .int .i64 c] 90)) = W := ⟨_, rfl⟩
        rw [hK3, hW4] at HW4 HA4
        rw [hW4] at HM4
        unfold rdC at hW4
        rw [hW4, hK3]
        clear hK3 hW4
        have HM5 := Lib.hid (HM4.out.setx u2)
        have HA5 : Hid ((W4.setRow X (rdC u2)).heap[K3 + 1]? = some (.cells #[.int .i64 a, .int .i64 b, .int .i64 c] 90 (0, 0))) := (setRow_other _ _ _ _ (fun e => by have h1 := HM4.out.x; have h2 := HA4.out; rw [e, h1] at h2; simp only [Option.some.injEq, Obj.cells.injEq] at h2; exact absurd h2.2.1.symm ar_rd)).trans HA4.out
        have HM6 := Lib.hid (HM5.out.keep ((Below.refl _ _).alloc (Nat.le_refl _) (.cells #[.int .i64 a, .int .i64 b, .int .i64 c] 90)))
        go_wp2_with (first
    | ((with_reducible show wpList _ _ _ _ _ _); refine wpList_load_row rfl 44 (.tmp 12) rfl (K3) rfl 44 (rdC u2) (0, 0) _ HW4.out Tryd.underlying44 rfl (by rw [size_rd]; rfl) ?_)
    | ((with_reducible show wpList _ _ _ _ _ _); refine wpList_store_row rfl 44 (.tmp 8) (.tmp 52) rfl (X) (rdC u2) rfl rfl 44 (rdC u) HM4.out.x (by rw [size_rd]; rfl) rfl (one_rd _) ?_)
    | ((with_reducible show wpList _ _ _ _ _ _); refine wpList_load_row rfl 90 (.tmp 13) rfl (K3 + 1) rfl 90 (#[.int .i64 a, .int .i64 b, .int .i64 c]) (0, 0) _ HA5.out Tryd.underlying90 rfl (by rw [size_ar]; rfl) ?_)
          | (at_builtin; refine wpList_append_own _ rfl _ _ 87 rfl (w.heap.size + 2) 90 i0 (.agg #[.int .i64 0, .int .i64 0, .int .i64 0]) 3 24 Tryd.underlying87 hi hz0 hz1 hz2 rfl (by decide) _ l.length _ rfl HM6.out.own ⟨W4.heap.size, 0, none⟩ 1 1 [.int .i64 a, .int .i64 b, .int .i64 c] rfl rfl ?c1 ?c2 ?c3 ?c4 ?c5 ?_))
        case c1 =>
          intro j q hj
          have hrow := heap_alloc_new (W4.setRow X (rdC u2)) (.cells #[.int .i64 a, .int .i64 b, .int .i64 c] 90)
          simp only [size_setRow] at hrow
          have e : (Addr.mk W4.heap.size 0 none).add j = ⟨W4.heap.size, j, none⟩ := by cases j <;> simp [Addr.add]
          rw [e, cell_of_row _ _ _ _ _ _ hrow, ← hj]
          simp
        case c2 => intro q hq; simp at hq; rcases hq with rfl | rfl | rfl <;> rfl
        case c3 => have := HLK.out; have := HV.out; unfold maxLen; omega
        case c4 => have := HLK.out; have := HV.out; omega
        case c5 => have h1 := HM6.out.hx; have h2 := lt_of_block HM6.out.x; omega
        intro v' w7 ho7 hg7 _
        have HM7 := Lib.hid (HM6.out.grown (x := ⟨a, b, c⟩) hg7 (l.length + 1) (by simp) ho7)
        clear ho7 hg7
        have hk1 : IntKind.i64.wrap ((k : Int) + 1) = (k : Int) + 1 := IntWalk.i64_in _ (by have := HV.out; omega)
        go_wp2
        go_roundw
        case rel => exact ⟨k + 1, l ++ [⟨a, b, c⟩], by omega, by go_num, (by have := HLK.out; simp; omega), (fun h => by
          rw [HNX.out] at h ⊢
          show l ++ _ = (rwN t1 k).2 ++ _
          rw [← HLE.out, HV3.out h]), by rw [HNX.out]; exact HM7.out⟩
        case measure => simp [intOf]; omega
      · have HST := Lib.hid (rwN_stay t1 k hk0 (v - k))
        rw [show k + (v - k) = v by omega] at HST
        have HPO : Hid (∀ W : World, W.ownsRow (w.heap.size + 2) 90 3 u10 l.length (flatA l) → Below w.heap.size w W → MPost t1 (rwN t1 v).1 v w (.returned (.tuple #[.agg (rdC (rwN t1 k).1), u10])) W) := fun W h b => ⟨l, u10, by rw [HST.out], row_base h (by omega), by have := HLK.out; omega, fun h => absurd (by rw [← HST.out]; exact h) hk0, b⟩
        obtain ⟨u, hu⟩ : ∃ x, (rwN t1 k).1 = x := ⟨_, rfl⟩
        rw [hu] at HM hk0 hq3 HPO
        have tku : ((u.k : Int) == 0) = false := by simp; exact hk0
        clear hk0 hu HLL HST
        have HFN := Lib.hid (setRow_heap _ _ _ (rdC u) _ _ HM.out.res)
        go_wp2_with (first
    | ((with_reducible show wpList _ _ _ _ _ _); refine wpList_load_row rfl 44 (.tmp 8) rfl (X) rfl 44 (rdC u) (0, 0) _ HM.out.x Tryd.underlying44 rfl (by rw [size_rd]; rfl) ?_)
    | ((with_reducible show wpList _ _ _ _ _ _); refine wpList_store_row rfl 44 (.tmp 6) (.tmp 57) rfl (w.heap.size + 1) (rdC u) rfl rfl 44 (rd0) HM.out.res (by rw [size_rd]; rfl) rfl (one_rd _) ?_))
        refine bodyPost_ret (v := .tuple #[.agg (rdC u), u10]) (results_row_tmp (fn := Tryd.f37) (p := 6) (u := 7) (ty := 44) rfl _ _ (w.heap.size + 1) 44 _ (0, 0) _ rfl HFN.out Tryd.underlying44 rfl (by rw [size_rd]; rfl)) rfl (HPO.out _ (row_beside HM.out.own (just_row _ _ _) (own_no ar_rd HM.out.own HM.out.res)) (Hdr.below_set2 HM.out.below (by omega)))
    · obtain rfl : k = v := by omega
      have hkn : ¬ (k : Int) < k := by omega
      have hkn2 : ¬ k < k := by omega
      obtain ⟨u, hu⟩ : ∃ x, (rwN t1 k).1 = x := ⟨_, rfl⟩
      have HPO : Hid (∀ W : World, W.ownsRow (w.heap.size + 2) 90 3 u10 l.length (flatA l) → Below w.heap.size w W → MPost t1 (rwN t1 k).1 k w (.returned (.tuple #[.agg (rdC u), u10])) W) := fun W h b => ⟨l, u10, by rw [hu], row_base h (by omega), HLK.out, HLL.out, b⟩
      rw [hu] at HM hq3
      clear hu HLL
      have HFN := Lib.hid (setRow_heap _ _ _ (rdC u) _ _ HM.out.res)
      go_wp2_with (first
    | ((with_reducible show wpList _ _ _ _ _ _); refine wpList_load_row rfl 44 (.tmp 8) rfl (X) rfl 44 (rdC u) (0, 0) _ HM.out.x Tryd.underlying44 rfl (by rw [size_rd]; rfl) ?_)
    | ((with_reducible show wpList _ _ _ _ _ _); refine wpList_store_row rfl 44 (.tmp 6) (.tmp 57) rfl (w.heap.size + 1) (rdC u) rfl rfl 44 (rd0) HM.out.res (by rw [size_rd]; rfl) rfl (one_rd _) ?_))
      refine bodyPost_ret (v := .tuple #[.agg (rdC u), u10]) (results_row_tmp (fn := Tryd.f37) (p := 6) (u := 7) (ty := 44) rfl _ _ (w.heap.size + 1) 44 _ (0, 0) _ rfl HFN.out Tryd.underlying44 rfl (by rw [size_rd]; rfl)) rfl (HPO.out _ (row_beside HM.out.own (just_row _ _ _) (own_no ar_rd HM.out.own HM.out.res)) (Hdr.below_set2 HM.out.below (by omega)))
/-- How the document's many ends. -/
def mnS (t : St) (n : Nat) (most : Int) : St := (rwN (cnS t n most) (cnV t n most)).1
def mnL (t : St) (n : Nat) (most : Int) : List A3 := (rwN (cnS t n most) (cnV t n most)).2
def YPost (t : St) (n : Nat) (most : Int) (w : World) (e : Ending) (w' : World) : Prop := ∃ (l : List A3) (V : Value), e = .returned (.tuple #[.agg (rdC (mnS t n most)), V]) ∧ w'.ownsRow w.heap.size 90 3 V l.length (flatA l) ∧ l.length ≤ 65535 ∧ ((mnS t n most).k = 0 → l = mnL t n most) ∧ Below w.heap.size w w'
theorem many_any (t : St) (n : Nat) (most : Int) (w : World) (ho : Ok t) (hn : n = 1 ∨ n = 2) :
    Calls Tryd.prog 37 #[.agg (rdC t), .int .i64 n, .int .i64 most] w (YPost t n most w) := by
  have HNUM : Hid (NUMP t (numS t n) n (numV t n)) := fun w => rnum_any t n w ho (by omega)
  have hv : numV t n ≤ 65535 := by
    have := numV_lt t n (by omega)
    rcases hn with rfl | rfl <;> omega
  by_cases hk : (numS t n).k = 0
  · by_cases hm : (numV t n : Int) ≤ most
    · have e1 : cnS t n most = numS t n := by unfold cnS; rw [need_so _ _ _ (decide_eq_true hm)]
      have e2 : cnV t n most = numV t n := by unfold cnV; rw [e1, if_pos hk]
      refine (mn_good t (numS t n) n (numV t n) most w hv (ok_num ho n) hk hm HNUM).mono ?_
      rintro e w' ⟨l, V, rfl, hw, hl, hle, hb⟩
      unfold YPost mnS mnL
      rw [e1, e2]
      exact ⟨l, V, rfl, hw, by omega, hle, hb⟩
    · have e1 : cnS t n most = failS (numS t n) 8 t.p := by unfold cnS; rw [need_no _ _ _ (decide_eq_false hm)]
      have hf := fail_bad (t := numS t n) (k := 8) (a := t.p) hk (by omega)
      have e2 : cnV t n most = 0 := by unfold cnV; rw [e1, if_neg hf]
      have HFAIL := Lib.hid (fun w => rfail_any (numS t n) 8 t.p w (by omega))
      refine (mn_out t (numS t n) _ n (numV t n) most w hv hk (by omega) HNUM HFAIL).mono ?_
      rintro e w' ⟨rfl, hb⟩
      unfold YPost mnS mnL
      rw [e1, e2]
      exact ⟨[], _, rfl, World.ownsRow_nil _ _ _ _, Nat.zero_le _, fun h => absurd h hf, hb⟩
  · have e1 : cnS t n most = numS t n := by unfold cnS; exact need_bad hk
    have e2 : cnV t n most = 0 := by unfold cnV; rw [e1, if_neg hk]
    have e3 := rwN_stay (numS t n) 0 hk (numV t n)
    rw [Nat.zero_add] at e3
    refine (mn_bad t (numS t n) n (numV t n) most w hv (ok_num ho n) hk HNUM).mono ?_
    rintro e w' ⟨l, V, rfl, hw, hl, hle, hb⟩
    unfold YPost mnS mnL
    rw [e1, e2]
    rw [e3]
    exact ⟨l, V, rfl, hw, by omega, fun h => absurd h hk, hb⟩
end Go.Proofs.YtbcjkongcnpdlaaDoor.Scd

namespace Go.Proofs.YtbcjkongcnpdlaaDoor.Scd

open Go.RowKit Go.PlainAid Go.Proofs.YtbcjkongcnpdlaaDoor.Oct Go.Proofs.YtbcjkongcnpdlaaDoor.Flt Go.Proofs.YtbcjkongcnpdlaaDoor.Rdr Go.Proofs.YtbcjkongcnpdlaaDoor.Act

set_option linter.unusedVariables false

set_option linter.unusedSimpArgs false

theorem grown_just {w w' : World} {r : Option Nat} (h : w.grownBy w' r) : Just (r.getD w.heap.size) w w' :=
  ⟨h.os, h.tape, h.output, h.size, fun k hk hne => h.block k hk fun e => hne (by rw [← e]; rfl)⟩
theorem just_below {w wr w' : World} {b : Nat} (h : Below w.heap.size w wr) (j : Just b wr w') (hb : w.heap.size ≤ b) : Below w.heap.size w w' :=
  h.trans ⟨j.os, j.tape, j.output, j.size, fun k hk => j.block k (Nat.lt_of_lt_of_le hk h.size) (by omega)⟩
theorem own_apart {w : World} {B n : Nat} {T T' : TypeId} {s : Nat} {V : Value} {xs : List Value} {X : Nat} {cs : Array Value} (h : w.ownsRow B T s V n xs) (hT : T ≠ T') (hx : w.heap[X]? = some (.cells cs T' (0, 0))) : ∀ k, V.ownBlock = some k → k ≠ X := by
  intro k hk e
  obtain ⟨c2, e2⟩ := Prt.own_block h hk
  rw [e, hx] at e2
  simp only [Option.some.injEq, Obj.cells.injEq] at e2
  exact hT e2.2.1.symm
theorem own_two {w : World} {B n B' n' : Nat} {T T' : TypeId} {s s' : Nat} {V V' : Value} {xs xs' : List Value} (h : w.ownsRow B T s V n xs) (h' : w.ownsRow B' T' s' V' n' xs') (hT : T ≠ T') {g : Nat} (hg : V'.ownBlock = some g) : ∀ k, V.ownBlock = some k → k ≠ g := by
  obtain ⟨c, e⟩ := Prt.own_block h' hg
  exact own_apart h hT e
theorem own_fresh {w : World} {B n : Nat} {T : TypeId} {s : Nat} {V : Value} {xs : List Value} (h : w.ownsRow B T s V n xs) : ∀ k, V.ownBlock = some k → k ≠ w.heap.size := fun k hk => by have := (h.lt k hk).2; omega
/-- Between the document's rounds: the reader, the result's place, the row so far, its windows and needs. -/
structure GG (t : St) (L : List (SC × Value × Value)) (V : Value) (w wr : World) : Prop where
  rd : wr.heap[w.heap.size]? = some (.cells (rdC t) 44 (0, 0))
  res : wr.heap[w.heap.size + 1]? = some (.cells rd0 44 (0, 0))
  own : wr.ownsRow (w.heap.size + 2) 51 4 V L.length (flatS L)
  subW : ∀ q ∈ L, wr.ownsRow (w.heap.size + 2) 59 3 q.2.1 q.1.ws.length (flatA q.1.ws)
  subN : ∀ q ∈ L, wr.ownsRow (w.heap.size + 2) 68 3 q.2.2 q.1.ns.length (flatA q.1.ns)
  below : Below w.heap.size w wr
/-- A block that is none of these. -/
structure GFree (L : List (SC × Value × Value)) (V : Value) (w : World) (b : Nat) : Prop where
  h0 : w.heap.size + 1 < b
  v : ∀ k, V.ownBlock = some k → k ≠ b
  w : ∀ q ∈ L, ∀ k, q.2.1.ownBlock = some k → k ≠ b
  n : ∀ q ∈ L, ∀ k, q.2.2.ownBlock = some k → k ≠ b
theorem GG.just {t : St} {L : List (SC × Value × Value)} {V : Value} {w wr w' : World} {b : Nat} (f : GG t L V w wr) (j : Just b wr w') (a : GFree L V w b) : GG t L V w w' := by
  have h0 := a.h0
  exact ⟨(j.block _ (lt_of_block f.rd) (by omega)).trans f.rd, (j.block _ (lt_of_block f.res) (by omega)).trans f.res, row_beside f.own j a.v, fun q hq => row_beside (f.subW q hq) j (a.w q hq), fun q hq => row_beside (f.subN q hq) j (a.n q hq), just_below f.below j (by omega)⟩
theorem GG.fresh {t : St} {L : List (SC × Value × Value)} {V : Value} {w wr : World} (f : GG t L V w wr) : GFree L V w wr.heap.size :=
  ⟨lt_of_block f.res, own_fresh f.own, fun q hq => own_fresh (f.subW q hq), fun q hq => own_fresh (f.subN q hq)⟩
theorem GG.keep {t : St} {L : List (SC × Value × Value)} {V : Value} {w wr w' : World} (f : GG t L V w wr) (b : Below wr.heap.size wr w') : GG t L V w w' := f.just (Just.of_below (g := wr.heap.size) b) f.fresh
theorem GG.reader {t : St} {L : List (SC × Value × Value)} {V : Value} {w wr : World} {X : Nat} {u : St} (f : GG t L V w wr) (hX : wr.heap[X]? = some (.cells (rdC u) 44 (0, 0))) (hx : w.heap.size + 1 < X) : GFree L V w X :=
  ⟨hx, own_apart f.own (by decide) hX, fun q hq => own_apart (f.subW q hq) (by decide) hX, fun q hq => own_apart (f.subN q hq) (by decide) hX⟩
/-- Within a round: the schedule's own block, its rows, what was read of many. -/
structure GS (S : Nat) (id fr : Int) (VW VN : Value) (ws ns : List A3) (R1 R2 : Value) (l1 l2 : List A3) (t : St) (L : List (SC × Value × Value)) (V : Value) (w wr : World) : Prop where
  g : GG t L V w wr
  s : wr.heap[S]? = some (.cells #[.int .i64 id, .int .i64 fr, VW, VN] 51 (0, 0))
  ow : wr.ownsRow (S + 1) 59 3 VW ws.length (flatA ws)
  on : wr.ownsRow (S + 1) 68 3 VN ns.length (flatA ns)
  r1 : wr.ownsRow (w.heap.size + 2) 90 3 R1 l1.length (flatA l1)
  r2 : wr.ownsRow (w.heap.size + 2) 90 3 R2 l2.length (flatA l2)
  hs : w.heap.size + 1 < S
  vlt : ∀ k, V.ownBlock = some k → k < S
  wlt : ∀ q ∈ L, ∀ k, q.2.1.ownBlock = some k → k < S
  nlt : ∀ q ∈ L, ∀ k, q.2.2.ownBlock = some k → k < S
variable {S b : Nat} {id fr : Int} {VW VN R1 R2 V : Value} {ws ns l1 l2 : List A3} {t u : St} {X : Nat} {L : List (SC × Value × Value)} {w wr w' : World}

theorem GS.just (f : GS S id fr VW VN ws ns R1 R2 l1 l2 t L V w wr) (j : Just b wr w') (a : GFree L V w b) (hS : S ≠ b) (h1 : ∀ k, VW.ownBlock = some k → k ≠ b) (h2 : ∀ k, VN.ownBlock = some k → k ≠ b) (h3 : ∀ k, R1.ownBlock = some k → k ≠ b) (h4 : ∀ k, R2.ownBlock = some k → k ≠ b) : GS S id fr VW VN ws ns R1 R2 l1 l2 t L V w w' :=
  ⟨f.g.just j a, (j.block _ (lt_of_block f.s) hS).trans f.s, row_beside f.ow j h1, row_beside f.on j h2, row_beside f.r1 j h3, row_beside f.r2 j h4, f.hs, f.vlt, f.wlt, f.nlt⟩
theorem GS.keep (f : GS S id fr VW VN ws ns R1 R2 l1 l2 t L V w wr) (b : Below wr.heap.size wr w') : GS S id fr VW VN ws ns R1 R2 l1 l2 t L V w w' :=
  f.just (Just.of_below (g := wr.heap.size) b) f.g.fresh (by have := lt_of_block f.s; omega) (own_fresh f.ow) (own_fresh f.on) (own_fresh f.r1) (own_fresh f.r2)
theorem GS.sched (f : GS S id fr VW VN ws ns R1 R2 l1 l2 t L V w wr) : GFree L V w S := ⟨f.hs, fun k hk => by have := f.vlt k hk; omega, fun q hq k hk => by have := f.wlt q hq k hk; omega, fun q hq k hk => by have := f.nlt q hq k hk; omega⟩
theorem GS.mine (f : GS S id fr VW VN ws ns R1 R2 l1 l2 t L V w wr) {g : Nat} (hg : S + 1 ≤ g) : GFree L V w g := ⟨by have := f.hs; omega, fun k hk => by have := f.vlt k hk; omega, fun q hq k hk => by have := f.wlt q hq k hk; omega, fun q hq k hk => by have := f.nlt q hq k hk; omega⟩
/-- The schedule's block is written: whatever its cells become. -/
theorem GS.write (f : GS S id fr VW VN ws ns R1 R2 l1 l2 t L V w wr) {id' fr' : Int} {VW' VN' : Value} {ws' ns' : List A3} (j : Just S wr w') (hs : w'.heap[S]? = some (.cells #[.int .i64 id', .int .i64 fr', VW', VN'] 51 (0, 0))) (h1 : wr.ownsRow (S + 1) 59 3 VW' ws'.length (flatA ws')) (h2 : wr.ownsRow (S + 1) 68 3 VN' ns'.length (flatA ns')) : GS S id' fr' VW' VN' ws' ns' R1 R2 l1 l2 t L V w w' :=
  ⟨f.g.just j f.sched, hs, row_beside h1 j (fun k hk => by have := (h1.lt k hk).1; omega), row_beside h2 j (fun k hk => by have := (h2.lt k hk).1; omega), row_beside f.r1 j (own_apart f.r1 (by decide) f.s), row_beside f.r2 j (own_apart f.r2 (by decide) f.s), f.hs, f.vlt, f.wlt, f.nlt⟩
theorem set4 {wr : World} {S : Nat} {a b c d : Value} (h : wr.heap[S]? = some (.cells #[a, b, c, d] 51 (0, 0))) (o : Nat) (v : Value) : (wr.setCell ⟨S, o, none⟩ v).heap[S]? = some (.cells (#[a, b, c, d].setIfInBounds o v) 51 (0, 0)) := heap_setCell_same wr _ _ _ _ _ h
theorem GS.set0 (f : GS S id fr VW VN ws ns R1 R2 l1 l2 t L V w wr) (v : Int) : GS S v fr VW VN ws ns R1 R2 l1 l2 t L V w (wr.setCell ⟨S, 0, none⟩ (.int .i64 v)) :=
  f.write (just_set _ _ _ _) (by have := set4 f.s 0 (.int .i64 v); simpa using this) f.ow f.on
theorem GS.set1 (f : GS S id fr VW VN ws ns R1 R2 l1 l2 t L V w wr) (v : Int) : GS S id v VW VN ws ns R1 R2 l1 l2 t L V w (wr.setCell ⟨S, 1, none⟩ (.int .i64 v)) :=
  f.write (just_set _ _ _ _) (by have := set4 f.s 1 (.int .i64 v); simpa using this) f.ow f.on
theorem GS.grownW (f : GS S id fr VW VN ws ns R1 R2 l1 l2 t L V w wr) {VW' : Value} {x : A3} {n : Nat} (hg : wr.grownBy w' VW.ownBlock) (hn : n = (ws ++ [x]).length) (ho : w'.ownsRow (S + 1) 59 3 VW' n (flatA ws ++ actL x)) :
    (w'.heap[S]? = some (.cells #[.int .i64 id, .int .i64 fr, VW, VN] 51 (0, 0))) ∧ GS S id fr VW' VN (ws ++ [x]) ns R1 R2 l1 l2 t L V w (w'.setCell ⟨S, 2, none⟩ VW') := by
  have j := grown_just hg
  have hgt : S + 1 ≤ (VW.ownBlock.getD wr.heap.size) := by
    cases h : VW.ownBlock with
    | none => have := lt_of_block f.s; show S + 1 ≤ wr.heap.size; omega
    | some g => exact (f.ow.lt g h).1
  have ap : ∀ {B n : Nat} {T : TypeId} {U : Value} {xs : List Value}, wr.ownsRow B T 3 U n xs → T ≠ 59 → ∀ k, U.ownBlock = some k → k ≠ (VW.ownBlock.getD wr.heap.size) := by
    intro B n T U xs h hT k hk
    cases h' : VW.ownBlock with
    | none => exact own_fresh h k hk
    | some g => exact own_two h f.ow hT h' k hk
  have hS : w'.heap[S]? = some (.cells #[.int .i64 id, .int .i64 fr, VW, VN] 51 (0, 0)) := (j.block _ (lt_of_block f.s) (by omega)).trans f.s
  refine ⟨hS, ?_⟩
  subst hn
  have ho' : w'.ownsRow (S + 1) 59 3 VW' (ws ++ [x]).length (flatA (ws ++ [x])) := by rw [flatA_snoc]; exact ho
  have g' := f.g.just j (f.mine hgt)
  have on' := row_beside f.on j (ap f.on (by decide))
  have r1' := row_beside f.r1 j (ap f.r1 (by decide))
  have r2' := row_beside f.r2 j (ap f.r2 (by decide))
  have js := just_set w' S 2 VW'
  exact ⟨g'.just js f.sched, by have := set4 hS 2 VW'; simpa using this, row_beside ho' js (fun k hk => by have := (ho'.lt k hk).1; omega), row_beside on' js (fun k hk => by have := (on'.lt k hk).1; omega), row_beside r1' js (own_apart r1' (by decide) hS), row_beside r2' js (own_apart r2' (by decide) hS), f.hs, f.vlt, f.wlt, f.nlt⟩
theorem GS.grownN (f : GS S id fr VW VN ws ns R1 R2 l1 l2 t L V w wr) {VN' : Value} {x : A3} {n : Nat} (hg : wr.grownBy w' VN.ownBlock) (hn : n = (ns ++ [x]).length) (ho : w'.ownsRow (S + 1) 68 3 VN' n (flatA ns ++ actL x)) :
    (w'.heap[S]? = some (.cells #[.int .i64 id, .int .i64 fr, VW, VN] 51 (0, 0))) ∧ GS S id fr VW VN' ws (ns ++ [x]) R1 R2 l1 l2 t L V w (w'.setCell ⟨S, 3, none⟩ VN') := by
  have j := grown_just hg
  have hgt : S + 1 ≤ (VN.ownBlock.getD wr.heap.size) := by
    cases h : VN.ownBlock with
    | none => have := lt_of_block f.s; show S + 1 ≤ wr.heap.size; omega
    | some g => exact (f.on.lt g h).1
  have ap : ∀ {B n : Nat} {T : TypeId} {U : Value} {xs : List Value}, wr.ownsRow B T 3 U n xs → T ≠ 68 → ∀ k, U.ownBlock = some k → k ≠ (VN.ownBlock.getD wr.heap.size) := by
    intro B n T U xs h hT k hk
    cases h' : VN.ownBlock with
    | none => exact own_fresh h k hk
    | some g => exact own_two h f.on hT h' k hk
  have hS : w'.heap[S]? = some (.cells #[.int .i64 id, .int .i64 fr, VW, VN] 51 (0, 0)) := (j.block _ (lt_of_block f.s) (by omega)).trans f.s
  refine ⟨hS, ?_⟩
  subst hn
  have ho' : w'.ownsRow (S + 1) 68 3 VN' (ns ++ [x]).length (flatA (ns ++ [x])) := by rw [flatA_snoc]; exact ho
  have g' := f.g.just j (f.mine hgt)
  have ow' := row_beside f.ow j (ap f.ow (by decide))
  have r1' := row_beside f.r1 j (ap f.r1 (by decide))
  have r2' := row_beside f.r2 j (ap f.r2 (by decide))
  have js := just_set w' S 3 VN'
  exact ⟨g'.just js f.sched, by have := set4 hS 3 VN'; simpa using this, row_beside ow' js (fun k hk => by have := (ow'.lt k hk).1; omega), row_beside ho' js (fun k hk => by have := (ho'.lt k hk).1; omega), row_beside r1' js (own_apart r1' (by decide) hS), row_beside r2' js (own_apart r2' (by decide) hS), f.hs, f.vlt, f.wlt, f.nlt⟩
theorem GS.first {t : St} {L : List (SC × Value × Value)} {V : Value} {w wr : World} (f : GG t L V w wr) : GS wr.heap.size 0 0 (.slice none 0 0) (.slice none 0 0) [] [] (.slice none 0 0) (.slice none 0 0) [] [] t L V w (wr.alloc (.cells #[.int .i64 0, .int .i64 0, .slice none 0 0, .slice none 0 0] 51)) :=
  ⟨f.keep ((Below.refl _ _).alloc (Nat.le_refl _) _), heap_alloc_new _ _, World.ownsRow_nil _ _ _ _, World.ownsRow_nil _ _ _ _, World.ownsRow_nil _ _ _ _, World.ownsRow_nil _ _ _ _, lt_of_block f.res, fun k hk => (f.own.lt k hk).2, fun q hq k hk => ((f.subW q hq).lt k hk).2, fun q hq k hk => ((f.subN q hq).lt k hk).2⟩
/-- And the round's reader. -/
structure GK (X S : Nat) (u : St) (id fr : Int) (VW VN : Value) (ws ns : List A3) (R1 R2 : Value) (l1 l2 : List A3) (t : St) (L : List (SC × Value × Value)) (V : Value) (w wr : World) : Prop where
  j : GS S id fr VW VN ws ns R1 R2 l1 l2 t L V w wr
  x : wr.heap[X]? = some (.cells (rdC u) 44 (0, 0))
  hx : w.heap.size + 1 < X
theorem GK.keep (f : GK X S u id fr VW VN ws ns R1 R2 l1 l2 t L V w wr) (b : Below wr.heap.size wr w') : GK X S u id fr VW VN ws ns R1 R2 l1 l2 t L V w w' := ⟨f.j.keep b, (b.block _ (lt_of_block f.x)).trans f.x, f.hx⟩
theorem GK.drewN (f : GK X S u id fr VW VN ws ns R1 R2 l1 l2 t L V w wr) (n : Nat) : GK X S u id fr VW VN ws ns R1 R2 l1 l2 t L V w (wr.drewN n) := f.keep ⟨rfl, rfl, rfl, Nat.le_refl _, fun _ _ => rfl⟩
theorem GK.drew (f : GK X S u id fr VW VN ws ns R1 R2 l1 l2 t L V w wr) : GK X S u id fr VW VN ws ns R1 R2 l1 l2 t L V w wr.drew := f.keep ⟨rfl, rfl, rfl, Nat.le_refl _, fun _ _ => rfl⟩
theorem GK.ne (f : GK X S u id fr VW VN ws ns R1 R2 l1 l2 t L V w wr) : X ≠ S := fun e => by
  have h1 := f.x
  rw [e, f.j.s] at h1
  simp only [Option.some.injEq, Obj.cells.injEq] at h1
  exact absurd h1.2.1 (by decide)
theorem GK.setx (f : GK X S u id fr VW VN ws ns R1 R2 l1 l2 t L V w wr) (v : St) : GK X S v id fr VW VN ws ns R1 R2 l1 l2 t L V w (wr.setRow X (rdC v)) :=
  ⟨f.j.just (just_row wr X (rdC v)) (f.j.g.reader f.x f.hx) f.ne.symm (own_apart f.j.ow (by decide) f.x) (own_apart f.j.on (by decide) f.x) (own_apart f.j.r1 (by decide) f.x) (own_apart f.j.r2 (by decide) f.x), setRow_heap _ _ _ _ _ _ f.x, f.hx⟩
theorem GK.set0 (f : GK X S u id fr VW VN ws ns R1 R2 l1 l2 t L V w wr) (v : Int) : GK X S u v fr VW VN ws ns R1 R2 l1 l2 t L V w (wr.setCell ⟨S, 0, none⟩ (.int .i64 v)) := ⟨f.j.set0 v, ((just_set wr S 0 (.int .i64 v)).block _ (lt_of_block f.x) f.ne).trans f.x, f.hx⟩
theorem GK.set1 (f : GK X S u id fr VW VN ws ns R1 R2 l1 l2 t L V w wr) (v : Int) : GK X S u id v VW VN ws ns R1 R2 l1 l2 t L V w (wr.setCell ⟨S, 1, none⟩ (.int .i64 v)) := ⟨f.j.set1 v, ((just_set wr S 1 (.int .i64 v)).block _ (lt_of_block f.x) f.ne).trans f.x, f.hx⟩
theorem GK.with1 (f : GK X S u id fr VW VN ws ns R1 R2 l1 l2 t L V w wr) {R : Value} {l : List A3} (h : wr.ownsRow (w.heap.size + 2) 90 3 R l.length (flatA l)) : GK X S u id fr VW VN ws ns R R2 l l2 t L V w wr := ⟨⟨f.j.g, f.j.s, f.j.ow, f.j.on, h, f.j.r2, f.j.hs, f.j.vlt, f.j.wlt, f.j.nlt⟩, f.x, f.hx⟩
theorem GK.with2 (f : GK X S u id fr VW VN ws ns R1 R2 l1 l2 t L V w wr) {R : Value} {l : List A3} (h : wr.ownsRow (w.heap.size + 2) 90 3 R l.length (flatA l)) : GK X S u id fr VW VN ws ns R1 R l1 l t L V w wr := ⟨⟨f.j.g, f.j.s, f.j.ow, f.j.on, f.j.r1, h, f.j.hs, f.j.vlt, f.j.wlt, f.j.nlt⟩, f.x, f.hx⟩
theorem GK.xgrown (f : GK X S u id fr VW VN ws ns R1 R2 l1 l2 t L V w wr) {T : TypeId} {B n : Nat} {U : Value} {xs : List Value} (h : wr.ownsRow B T 3 U n xs) (hT : T ≠ 44) (hg : wr.grownBy w' U.ownBlock) : w'.heap[X]? = some (.cells (rdC u) 44 (0, 0)) :=
  (hg.block _ (lt_of_block f.x) fun e => own_apart h hT f.x X e.symm rfl).trans f.x
theorem GK.grownW (f : GK X S u id fr VW VN ws ns R1 R2 l1 l2 t L V w wr) {VW' : Value} {x : A3} {n : Nat} (hg : wr.grownBy w' VW.ownBlock) (hn : n = (ws ++ [x]).length) (ho : w'.ownsRow (S + 1) 59 3 VW' n (flatA ws ++ actL x)) :
    (w'.heap[S]? = some (.cells #[.int .i64 id, .int .i64 fr, VW, VN] 51 (0, 0))) ∧ GK X S u id fr VW' VN (ws ++ [x]) ns R1 R2 l1 l2 t L V w (w'.setCell ⟨S, 2, none⟩ VW') := by
  obtain ⟨h1, h2⟩ := f.j.grownW hg hn ho
  have h3 := f.xgrown f.j.ow (by decide) hg
  exact ⟨h1, h2, ((just_set w' S 2 VW').block _ (lt_of_block h3) f.ne).trans h3, f.hx⟩
theorem GK.grownN (f : GK X S u id fr VW VN ws ns R1 R2 l1 l2 t L V w wr) {VN' : Value} {x : A3} {n : Nat} (hg : wr.grownBy w' VN.ownBlock) (hn : n = (ns ++ [x]).length) (ho : w'.ownsRow (S + 1) 68 3 VN' n (flatA ns ++ actL x)) :
    (w'.heap[S]? = some (.cells #[.int .i64 id, .int .i64 fr, VW, VN] 51 (0, 0))) ∧ GK X S u id fr VW VN' ws (ns ++ [x]) R1 R2 l1 l2 t L V w (w'.setCell ⟨S, 3, none⟩ VN') := by
  obtain ⟨h1, h2⟩ := f.j.grownN hg hn ho
  have h3 := f.xgrown f.j.on (by decide) hg
  exact ⟨h1, h2, ((just_set w' S 3 VN').block _ (lt_of_block h3) f.ne).trans h3, f.hx⟩
theorem GK.xk (f : GK X S u id fr VW VN ws ns R1 R2 l1 l2 t L V w wr) : wr.cell? ⟨X, 3, none⟩ = some (.int .i64 u.k) := by rw [cell_of_row _ _ _ _ _ _ f.x]; rfl
theorem GK.cells (f : GK X S u id fr VW VN ws ns R1 R2 l1 l2 t L V w wr) : wr.cell? ⟨S, 0, none⟩ = some (.int .i64 id) ∧ wr.cell? ⟨S, 1, none⟩ = some (.int .i64 fr) ∧ wr.cell? ⟨S, 2, none⟩ = some VW ∧ wr.cell? ⟨S, 3, none⟩ = some VN := by
  refine ⟨?_, ?_, ?_, ?_⟩ <;> (rw [cell_of_row _ _ _ _ _ _ f.j.s]; rfl)
theorem GK.frozen (f : GK X S u id fr VW VN ws ns R1 R2 l1 l2 t L V w wr) (o : Nat) : wr.frozen? ⟨S, o, none⟩ = false := frozen_of_row wr _ o _ _ f.j.s
/-- The round's reader becomes the Get's. -/
theorem GK.copy (f : GK X S u id fr VW VN ws ns R1 R2 l1 l2 t L V w wr) : GK X S u id fr VW VN ws ns R1 R2 l1 l2 u L V w (wr.setRow w.heap.size (rdC u)) := by
  have j := just_row wr w.heap.size (rdC u)
  have hs := f.j.hs
  have hx := f.hx
  have e : ∀ {B n : Nat} {T : TypeId} {s : Nat} {U : Value} {xs : List Value}, wr.ownsRow B T s U n xs → T ≠ 44 → (wr.setRow w.heap.size (rdC u)).ownsRow B T s U n xs := fun h hT => row_beside h j (own_apart h hT f.j.g.rd)
  exact ⟨⟨⟨setRow_heap _ _ _ _ _ _ f.j.g.rd, (j.block _ (lt_of_block f.j.g.res) (by omega)).trans f.j.g.res, e f.j.g.own (by decide), fun q hq => e (f.j.g.subW q hq) (by decide), fun q hq => e (f.j.g.subN q hq) (by decide), just_below f.j.g.below j (Nat.le_refl _)⟩, (j.block _ (lt_of_block f.j.s) (by omega)).trans f.j.s, e f.j.ow (by decide), e f.j.on (by decide), e f.j.r1 (by decide), e f.j.r2 (by decide), hs, f.j.vlt, f.j.wlt, f.j.nlt⟩, (j.block _ (lt_of_block f.x) (by omega)).trans f.x, hx⟩
/-- The row has one schedule more. -/
theorem GK.done (f : GK X S u id fr VW VN ws ns R1 R2 l1 l2 t L V w wr) {V' : Value} {n : Nat} (hg : wr.grownBy w' V.ownBlock) (hn : n = L.length + 1) (ho : w'.ownsRow (w.heap.size + 2) 51 4 V' n (flatS L ++ [.int .i64 id, .int .i64 fr, VW, VN])) : GG t (L ++ [(⟨id, fr, ws, ns⟩, VW, VN)]) V' w w' := by
  have j := grown_just hg
  have hs := f.j.hs
  have hgt : w.heap.size + 1 < (V.ownBlock.getD wr.heap.size) := by
    cases h : V.ownBlock with
    | none => have := lt_of_block f.j.s; show _ < wr.heap.size; omega
    | some g => have := (f.j.g.own.lt g h).1; show _ < g; omega
  have ap : ∀ {B n : Nat} {T : TypeId} {U : Value} {xs : List Value}, wr.ownsRow B T 3 U n xs → T ≠ 51 → ∀ k, U.ownBlock = some k → k ≠ (V.ownBlock.getD wr.heap.size) := by
    intro B n T U xs h hT k hk
    cases h' : V.ownBlock with
    | none => exact own_fresh h k hk
    | some g => exact own_two h f.j.g.own hT h' k hk
  refine ⟨(j.block _ (lt_of_block f.j.g.rd) (by omega)).trans f.j.g.rd, (j.block _ (lt_of_block f.j.g.res) (by omega)).trans f.j.g.res, ?_, ?_, ?_, just_below f.j.g.below j (by omega)⟩
  · subst hn
    rw [flatS_snoc, List.length_append]
    exact ho
  · intro q hq
    rcases List.mem_append.1 hq with h | h
    · exact row_beside (f.j.g.subW q h) j (ap (f.j.g.subW q h) (by decide))
    · obtain rfl : q = _ := by simpa using h
      exact row_base (row_beside f.j.ow j (ap f.j.ow (by decide))) (by omega)
  · intro q hq
    rcases List.mem_append.1 hq with h | h
    · exact row_beside (f.j.g.subN q h) j (ap (f.j.g.subN q h) (by decide))
    · obtain rfl : q = _ := by simpa using h
      exact row_base (row_beside f.j.on j (ap f.j.on (by decide))) (by omega)
end Go.Proofs.YtbcjkongcnpdlaaDoor.Scd

namespace Go.Proofs.YtbcjkongcnpdlaaDoor.Scd

open Go.RowKit Go.PlainAid Go.Proofs.YtbcjkongcnpdlaaDoor.Oct Go.Proofs.YtbcjkongcnpdlaaDoor.Flt Go.Proofs.YtbcjkongcnpdlaaDoor.Rdr Go.Proofs.YtbcjkongcnpdlaaDoor.Act

set_option linter.unusedVariables false

set_option linter.unusedSimpArgs false

theorem step_append_own {P : Program} {ops : Array Oper} {o : Oper} {a : Act} {w : World} {K : Act → World → Prop} {Q : Exit → Act → World → Prop} {E : Prop}
    (hg : o.guard = none) (s x : Operand) (t : TypeId) (ho : o.op = .call { callee := .builtin .append, args := #[s, x], argTypes := #[t, t] })
    (base : Nat) (e : TypeId) (i : TypeInfo) (z : Value) (size bytes : Nat) (ht : P.underlying t = some (.slice e)) (hi : P.info? e = some i) (hz : i.zero = some z)
    (hsize : i.size = size) (hby : i.bytes = bytes) (hzs : z.cells.size = size) (hsz : 0 < size)
    (v : Value) (n : Nat) (xs : List Value) (hs : a.eval s = v) (hown : w.ownsRow base e size v n xs)
    (ad : Addr) (m c : Nat) (news : List Value) (hx : a.eval x = .slice (some ad) m c) (hl : news.length = m * size) (hnews : ∀ j u, news[j]? = some u → w.cell? (ad.add j) = some u) (h1 : ∀ u ∈ news, u.oneCell' = true)
    (h63 : n + m ≤ maxLen) (hbytes : (n + m) * bytes ≤ 140737488355328) (hbase : base ≤ w.heap.size)
    (hK : ∀ v' w', w'.ownsRow base e size v' (n + m) (xs ++ news) → w.grownBy w' v.ownBlock → K (a.put o.dst v') w') :
    if Region.wanted o (yielded ops a.tmps) = true then Oper.wp P o a w K Q else E := by
  have hw : Region.wanted o (yielded ops a.tmps) = true := by simp [Region.wanted, hg]
  rw [if_pos hw]
  exact wp_append_own w s x t ho base e i z size bytes ht hi hz hsize hby hzs hsz v n xs hs hown ad m c news hx hl hnews h1 h63 hbytes hbase fun v' w' h2 h3 _ => hK v' w' h2 h3
theorem rdk {w : World} {b : Nat} {t : St} (h : w.heap[b]? = some (.cells (rdC t) 44 (0, 0))) : w.cell? ⟨b, 3, none⟩ = some (.int .i64 t.k) := by rw [cell_of_row w _ _ _ _ _ h]; rfl
theorem rdp {w : World} {b : Nat} {t : St} (h : w.heap[b]? = some (.cells (rdC t) 44 (0, 0))) : w.cell? ⟨b, 1, none⟩ = some (.int .i64 t.p) := by rw [cell_of_row w _ _ _ _ _ h]; rfl
theorem own_acts3 {w : World} {T : TypeId} {B c : Nat} {A : Option Addr} {l : List A3} (h : w.ownsRow B T 3 (.slice A l.length c) l.length (flatA l)) : ActsAt w A l := by
  obtain ⟨A', c', e, h', _⟩ := own_at3 h
  obtain ⟨rfl, _, rfl⟩ : A = A' ∧ True ∧ c = c' := by injection e with e1 e2 e3; exact ⟨e1, trivial, e3⟩
  exact h'
theorem acts_cells {w : World} {y : Addr} {l : List A3} (h : ActsAt w (some y) l) {j : Nat} {x : A3} (hx : l[j]? = some x) : w.cell? (y.add (j * 3)) = some (.int .i64 x.s) ∧ w.cell? ⟨(y.add (j * 3)).block, (y.add (j * 3)).off + 1, none⟩ = some (.int .i64 x.p) ∧ w.cell? ⟨(y.add (j * 3)).block, (y.add (j * 3)).off + 2, none⟩ = some (.int .i64 x.a) := by
  obtain ⟨y', e, h1, h2, h3⟩ := h j x hx
  obtain rfl := Option.some.inj e
  exact ⟨h1, h2, h3⟩
theorem row_grown3 {w w' : World} {B n B' n' : Nat} {T T' : TypeId} {U U' : Value} {xs xs' : List Value} (h : w.ownsRow B T 3 U n xs) (h' : w.ownsRow B' T' 3 U' n' xs') (hT : T ≠ T') (hg : w.grownBy w' U'.ownBlock) : w'.ownsRow B T 3 U n xs :=
  row_beside h (grown_just hg) (by
    intro k hk
    cases e : U'.ownBlock with
    | none => exact own_fresh h k hk
    | some g => exact own_two h h' hT e k hk)
theorem GK.afterW {S : Nat} {id fr : Int} {VW VN R2 V : Value} {ws ns l1 l2 : List A3} {t u : St} {X : Nat} {L : List (SC × Value × Value)} {w wr w' : World} {y : Addr} {c j : Nat} {x : A3} (f : GK X S u id fr VW VN ws ns (.slice (some y) l1.length c) R2 l1 l2 t L V w wr) (hg : wr.grownBy w' VW.ownBlock) (hx : l1[j]? = some x) :
    w'.cell? (y.add (j * 3)) = some (.int .i64 x.s) ∧ w'.cell? ⟨(y.add (j * 3)).block, (y.add (j * 3)).off + 1, none⟩ = some (.int .i64 x.p) ∧ w'.cell? ⟨(y.add (j * 3)).block, (y.add (j * 3)).off + 2, none⟩ = some (.int .i64 x.a) :=
  acts_cells (own_acts3 (row_grown3 f.j.r1 f.j.ow (by decide) hg)) hx
theorem GK.afterN {S : Nat} {id fr : Int} {VW VN R1 V : Value} {ws ns l1 l2 : List A3} {t u : St} {X : Nat} {L : List (SC × Value × Value)} {w wr w' : World} {y : Addr} {c j : Nat} {x : A3} (f : GK X S u id fr VW VN ws ns R1 (.slice (some y) l2.length c) l1 l2 t L V w wr) (hg : wr.grownBy w' VN.ownBlock) (hx : l2[j]? = some x) :
    w'.cell? (y.add (j * 3)) = some (.int .i64 x.s) ∧ w'.cell? ⟨(y.add (j * 3)).block, (y.add (j * 3)).off + 1, none⟩ = some (.int .i64 x.p) ∧ w'.cell? ⟨(y.add (j * 3)).block, (y.add (j * 3)).off + 2, none⟩ = some (.int .i64 x.a) :=
  acts_cells (own_acts3 (row_grown3 f.j.r2 f.j.on (by decide) hg)) hx
theorem row_cells4 {w : World} {S : Nat} {a b c d : Value} (h : w.heap[S]? = some (.cells #[a, b, c, d] 51 (0, 0))) : w.cell? ⟨S, 0, none⟩ = some a ∧ w.cell? ⟨S, 1, none⟩ = some b ∧ w.cell? ⟨S, 2, none⟩ = some c ∧ w.cell? ⟨S, 3, none⟩ = some d := by
  refine ⟨?_, ?_, ?_, ?_⟩ <;> (rw [cell_of_row _ _ _ _ _ _ h]; rfl)
theorem new3 (w : World) (T : TypeId) (a b c : Int) : ∀ j u, ([.int .i64 a, .int .i64 b, .int .i64 c] : List Value)[j]? = some u → (w.alloc (.cells #[.int .i64 a, .int .i64 b, .int .i64 c] T)).cell? ((Addr.mk w.heap.size 0 none).add j) = some u := by
  intro j q hj
  have hrow := heap_alloc_new w (.cells #[.int .i64 a, .int .i64 b, .int .i64 c] T)
  have e : (Addr.mk w.heap.size 0 none).add j = ⟨w.heap.size, j, none⟩ := by cases j <;> simp [Addr.add]
  rw [e, cell_of_row _ _ _ _ _ _ hrow, ← hj]
  simp
theorem new3d (w : World) (T : TypeId) (a b c : Int) : ∀ j u, ([.int .i64 a, .int .i64 b, .int .i64 c] : List Value)[j]? = some u → (w.alloc (.cells #[.int .i64 a, .int .i64 b, .int .i64 c] T)).drew.cell? ((Addr.mk w.heap.size 0 none).add j) = some u := new3 w T a b c
theorem new3e (w : World) (T : TypeId) (a b c : Int) : ∀ j u, ([.int .i64 a, .int .i64 b, .int .i64 c] : List Value)[j]? = some u → (w.drew.alloc (.cells #[.int .i64 a, .int .i64 b, .int .i64 c] T)).cell? ((Addr.mk w.heap.size 0 none).add j) = some u := new3 w.drew T a b c
theorem one3 (a b c : Int) : ∀ u ∈ ([.int .i64 a, .int .i64 b, .int .i64 c] : List Value), u.oneCell' = true := by
  intro q hq; simp at hq; rcases hq with rfl | rfl | rfl <;> rfl
theorem new4 (w : World) (T : TypeId) (a b c d : Value) : ∀ j u, [a, b, c, d][j]? = some u → (w.alloc (.cells #[a, b, c, d] T)).cell? ((Addr.mk w.heap.size 0 none).add j) = some u := by
  intro j q hj
  have hrow := heap_alloc_new w (.cells #[a, b, c, d] T)
  have e : (Addr.mk w.heap.size 0 none).add j = ⟨w.heap.size, j, none⟩ := by cases j <;> simp [Addr.add]
  rw [e, cell_of_row _ _ _ _ _ _ hrow, ← hj]
  simp
theorem one4 (a b : Int) (A B : Option Addr) (n m c d : Nat) : ∀ u ∈ ([.int .i64 a, .int .i64 b, .slice A n c, .slice B m d] : List Value), u.oneCell' = true := by
  intro q hq; simp at hq; rcases hq with rfl | rfl | rfl | rfl <;> rfl
/-- A load by another name: a region's walk then tries no such load first. -/
def ld2 (t : TypeId) (o : Operand) : Op := Op.load t o
attribute [go_sem] ld2
theorem take_more (l : List A3) (j : Nat) (x : A3) (hx : l[j]? = some x) : l.take (j + 1) = l.take j ++ [x] := Prt.take_snoc l j x hx
def WRelW (X S : Nat) (u : St) (id fr : Int) (R1 R2 : Value) (l1 l2 : List A3) (t : St) (L : List (SC × Value × Value)) (V : Value) (w : World) (i : Value) (wr : World) : Prop :=
  ∃ (j : Nat) (VW : Value), j ≤ l1.length ∧ i = .int .i64 j ∧ GK X S u id fr VW (.slice none 0 0) (l1.take j) [] R1 R2 l1 l2 t L V w wr
def WRelN (X S : Nat) (u : St) (id fr : Int) (VW : Value) (R1 R2 : Value) (l1 l2 : List A3) (t : St) (L : List (SC × Value × Value)) (V : Value) (w : World) (i : Value) (wr : World) : Prop :=
  ∃ (j : Nat) (VN : Value), j ≤ l2.length ∧ i = .int .i64 j ∧ GK X S u id fr VW VN l1 (l2.take j) R1 R2 l1 l2 t L V w wr
theorem rwN_k0 {t : St} {n : Nat} (h : (rwN t n).1.k = 0) : t.k = 0 := by
  by_cases h0 : t.k = 0
  · exact h0
  · have := rwN_stay t 0 h0 n
    rw [Nat.zero_add] at this
    rw [this] at h
    exact absurd h h0
theorem cn_k0 {t : St} {n : Nat} {most : Int} (h : (cnS t n most).k = 0) : t.k = 0 := by
  by_cases h0 : t.k = 0
  · exact h0
  · have e1 : numS t n = t := by unfold numS; rw [if_neg h0]
    unfold cnS at h
    rw [e1, need_bad h0] at h
    exact absurd h h0
theorem mn_k0 {t : St} {n : Nat} {most : Int} (h : (mnS t n most).k = 0) : t.k = 0 := cn_k0 (rwN_k0 h)
theorem on_mn (t : St) (la : Int) : onS t la = mnS (mnS (tkS (s1S t la) 1) 2 256) 1 32 := rfl
theorem onV_mn (t : St) (la : Int) : onV t la = ⟨numV t 1, numV (s1S t la) 4, mnL (tkS (s1S t la) 1) 2 256, mnL (mnS (tkS (s1S t la) 1) 2 256) 1 32⟩ := rfl
def GPost (t : St) (l : List SC) (w : World) (e : Ending) (w' : World) : Prop :=
  ∃ V L, e = .returned (.tuple #[.agg (rdC t), V]) ∧ ((t.k ≠ 0 ∧ V = .slice none 0 0) ∨ (t.k = 0 ∧ L.map Prod.fst = l ∧ w'.ownsRow w.heap.size 51 4 V L.length (flatS L) ∧ (∀ q ∈ L, w'.ownsRow w.heap.size 59 3 q.2.1 q.1.ws.length (flatA q.1.ws)) ∧ (∀ q ∈ L, w'.ownsRow w.heap.size 68 3 q.2.2 q.1.ns.length (flatA q.1.ns)))) ∧ Below w.heap.size w w'
def GRelS (T : St) (N : Nat) (w : World) (v last i : Value) (wr : World) : Prop :=
  ∃ (k : Nat) (la : Int) (L : List (SC × Value × Value)), k ≤ N ∧ i = .int .i64 k ∧ last = .int .i64 la ∧ L.length ≤ k ∧ ((itS T k).1.k = 0 → L.map Prod.fst = (itS T k).2 ∧ la = lastS (itS T k).2) ∧ GG (itS T k).1 L v w wr
theorem owns_empty4 (w : World) : (w.alloc (.cells #[] 51)).ownsRow w.heap.size 51 4 (.slice (some ⟨w.heap.size, 0, none⟩) 0 0) 0 [] :=
  ⟨rfl, .inr ⟨_, 0, #[], rfl, Nat.le_refl _, heap_alloc_new _ _, by simp⟩⟩
set_option maxRecDepth 8000 in
set_option maxHeartbeats 16000000 in
theorem get09_any (t : St) (n : Int) (w : World) (ho : Ok t) (hL : ∀ k, k ≤ n.toNat → (itS (secS t 3) k).1.k = 0 → k ≤ 1099511627776) :
    Calls Tryd.prog 16 #[.agg (rdC t), .int .i64 n] w (GPost (rdS t n.toNat) (rdL t n.toNat) w) := by
  obtain ⟨i0, hi, hz0, hz1, hz2⟩ := info_parts infoSc
  obtain ⟨i1, hi1, hy0, hy1, hy2⟩ := info_parts infoW
  obtain ⟨i2, hi2, hx0, hx1, hx2⟩ := info_parts infoN
  have ho2 : Ok (secS t 3) := ho
  have HP : Hid (rdS t n.toNat = (itS (secS t 3) n.toNat).1) := rfl
  have HL : Hid (rdL t n.toNat = (itS (secS t 3) n.toNat).2) := rfl
  obtain ⟨T, hT⟩ : ∃ x, secS t 3 = x := ⟨_, rfl⟩
  have HTC : Hid (rdC T = #[.string t.s, .int .i64 t.p, .int .i64 3, .int .i64 t.k, .int .i64 t.fs, .int .i64 t.fa]) := by show _ = _; rw [← hT]; rfl
  rw [hT] at HP HL ho2 hL
  have HOK := Lib.hid (fun i => ok_itS ho2 i)
  rw [HP.out, HL.out]
  obtain ⟨N, hN⟩ : ∃ N, n.toNat = N := ⟨_, rfl⟩
  have HNN := Lib.hid hN
  rw [hN] at hL
  have HLL := Lib.hid hL
  have HSR := Lib.hid size_rd
  have HSC := Lib.hid size_sc
  have HST0 : Hid (GG T [] (.slice (some ⟨w.heap.size + 1 + 1, 0, none⟩) 0 0) w (((w.alloc (.cells #[.string t.s, .int .i64 t.p, .int .i64 3, .int .i64 t.k, .int .i64 t.fs, .int .i64 t.fa] 44)).alloc (.cells #[.string ⟨#[]⟩, .int .i64 0, .int .i64 0, .int .i64 0, .int .i64 0, .int .i64 0] 44)).alloc (.cells #[] 51))) := by
    show GG _ _ _ _ _
    rw [← HTC.out]
    refine ⟨(heap_alloc_old _ _ (by simp; omega)).trans ((heap_alloc_old _ _ (by simp)).trans (heap_alloc_new _ _)), (heap_alloc_old _ _ (by simp)).trans (Hdr.second_new w _ _), ?_, (fun q hq => by simp at hq), (fun q hq => by simp at hq), (two_below w _ _).alloc (by simp; omega) _⟩
    have h := owns_empty4 ((w.alloc (.cells (rdC T) 44)).alloc (.cells #[.string ⟨#[]⟩, .int .i64 0, .int .i64 0, .int .i64 0, .int .i64 0, .int .i64 0] 44))
    simp only [World.size_alloc] at h
    exact h
  rw [hN]
  unfold rdC
  clear hT HP HL ho2 ho hN hL
  go_enter Tryd.func16, Tryd.ntmps16
  go_wp2_with fail
  go_loopw [6, 7, 8] (fun v last i wr => GRelS T N w v last i wr) (fun _ _ i _ => N - (intOf i).toNat)
  case atStart => exact ⟨0, -1, [], Nat.zero_le _, rfl, rfl, Nat.le_refl _, fun _ => ⟨rfl, rfl⟩, HST0.out⟩
  case round =>
    obtain ⟨k, la, L, hk, rfl, rfl, hlk, hll, hf⟩ := hrel
    have HF := Lib.hid hf
    have HLK := Lib.hid hlk
    have HLV := Lib.hid hll
    clear hf HST0 hlk hll
    by_cases hlt : k < N
    · have hkn : (k : Int) < n := by have := HNN.out; omega
      by_cases hk0 : (itS T k).1.k = 0
      · have HNX : Hid (itS T (k + 1) = (onS (itS T k).1 (lastS (itS T k).2), (itS T k).2 ++ [onV (itS T k).1 (lastS (itS T k).2)])) := by show _ = _; rw [itS, if_pos hk0]
        have HKB : Hid (k ≤ 1099511627776) := HLL.out k hk hk0
        have HOT := Lib.hid (HOK.out k)
        obtain ⟨hlm, hla⟩ := HLV.out hk0
        have HLM := Lib.hid hlm
        rw [← hla] at HNX
        obtain ⟨tk, htk⟩ : ∃ x, (itS T k).1 = x := ⟨_, rfl⟩
        rw [htk] at hk0
        rw [htk] at HF HNX HOT
        have tk0 : ((tk.k : Int) == 0) = true := by simp; exact hk0
        rw [on_mn, onV_mn] at HNX
        have HO1 : Hid (Ok (s1S tk la)) := ok_s1 HOT.out la
        have HO2 : Hid (Ok (tkS (s1S tk la) 1)) := ok_tk HO1.out 1
        have HO3 : Hid (Ok (mnS (tkS (s1S tk la) 1) 2 256)) := ok_rwN (ok_cn HO2.out 2 256) _
        have HU1 := Lib.hid (fun W => rnum_any tk 1 W HOT.out (by omega))
        have hv1 := u8_le tk
        have HTK := Lib.hid (fun W => rticks_any (s1S tk la) 1 W HO1.out)
        have HM1 := Lib.hid (fun W => many_any (tkS (s1S tk la) 1) 2 256 W HO2.out (by omega))
        have HM2 := Lib.hid (fun W => many_any (mnS (tkS (s1S tk la) 1) 2 256) 1 32 W HO3.out (by omega))
        have HS1 : Hid (s1S tk la = needS (decide (la < (numV tk 1 : Int))) (numS tk 1) 9 tk.p) := rfl
        unfold TPost at HTK
        unfold YPost at HM1 HM2
        obtain ⟨t1, ht1⟩ : ∃ x, s1S tk la = x := ⟨_, rfl⟩
        obtain ⟨t2, ht2⟩ : ∃ x, tkS (s1S tk la) 1 = x := ⟨_, rfl⟩
        obtain ⟨t3, ht3⟩ : ∃ x, mnS (tkS (s1S tk la) 1) 2 256 = x := ⟨_, rfl⟩
        obtain ⟨t4, ht4⟩ : ∃ x, mnS (mnS (tkS (s1S tk la) 1) 2 256) 1 32 = x := ⟨_, rfl⟩
        have HK4 : Hid (t4.k = 0 → t3.k = 0 ∧ t2.k = 0) := fun h => by
          have h3 : t3.k = 0 := by rw [← ht3]; exact mn_k0 (by rw [ht4]; exact h)
          exact ⟨h3, by rw [← ht2]; exact mn_k0 (by rw [ht3]; exact h3)⟩
        rw [ht2] at HTK HM1 HNX HM2 ht3 ht4
        rw [ht3] at HM1 HM2 HNX ht4
        rw [ht4] at HM2 HNX
        rw [ht1] at HTK HNX HS1
        obtain ⟨id, hid⟩ : ∃ x, numV tk 1 = x := ⟨_, rfl⟩
        obtain ⟨n1, hn1⟩ : ∃ x, numS tk 1 = x := ⟨_, rfl⟩
        rw [hid] at HU1 hv1 HNX HS1
        rw [hn1] at HU1 HS1
        obtain ⟨fr, hfr⟩ : ∃ x, numV t1 4 = x := ⟨_, rfl⟩
        rw [hfr] at HTK HNX
        obtain ⟨m1, hm1⟩ : ∃ x, mnL t2 2 256 = x := ⟨_, rfl⟩
        rw [hm1] at HM1 HNX
        obtain ⟨m2, hm2⟩ : ∃ x, mnL t3 1 32 = x := ⟨_, rfl⟩
        rw [hm2] at HM2 HNX
        have hw1 : IntKind.i64.wrap (id : Int) = id := IntWalk.i64_in _ (by omega)
        have hq1 := rdp HF.out.rd
        have hq3 := rdk HF.out.rd
        have HHN := Lib.hid HOK.out
        clear hk0 htk ht1 ht2 ht3 ht4 hid hn1 hfr hm1 hm2 hlm hla HO1 HO2 HO3 HOT hv1 HLV
        go_upto_region 9 with fail
        have HJ0 := Lib.hid (GS.first HF.out)
        obtain ⟨S, hS⟩ : ∃ S, wr.heap.size = S := ⟨_, rfl⟩
        obtain ⟨W1, hW1⟩ : ∃ W, (wr.alloc (.cells #[.int .i64 0, .int .i64 0, .slice none 0 0, .slice none 0 0] 51)) = W := ⟨_, rfl⟩
        rw [hS, hW1] at HJ0
        rw [hS, hW1]
        clear hW1 hS hq1 hq3 HF
        have hq2 := rdk HJ0.out.g.rd
        go_wp2_with (first
          | ((with_reducible show wpList _ _ _ _ _ _); refine wpList_load_row rfl 44 (.tmp 2) rfl (w.heap.size) rfl 44 (rdC tk) (0, 0) _ HJ0.out.g.rd Tryd.underlying44 rfl (by rw [HSR.out]; rfl) ?_))
        refine (HU1.out _).mono ?_
        rintro e w3 ⟨rfl, hb3⟩
        have HJ3 := Lib.hid (HJ0.out.keep hb3)
        have hsz3 := lt_of_block HJ3.out.g.res
        have hk4 : GK w3.heap.size S n1 0 0 (.slice none 0 0) (.slice none 0 0) [] [] (.slice none 0 0) (.slice none 0 0) [] [] tk L u6 w (w3.alloc (.cells (rdC n1) 44)) := ⟨HJ3.out.keep ((Below.refl _ _).alloc (Nat.le_refl _) _), heap_alloc_new _ _, hsz3⟩
        clear hb3 hsz3 HJ3 HU1 hq2
        dsimp only [rdC]
        go_upto_region 10 with fail
        obtain ⟨X, hX⟩ : ∃ X, w3.heap.size = X := ⟨_, rfl⟩
        obtain ⟨W4, hW4⟩ : ∃ W, w3.alloc (.cells (rdC n1) 44) = W := ⟨_, rfl⟩
        rw [hX, hW4] at hk4
        unfold rdC at hW4
        rw [hW4, hX]
        have HK4' := Lib.hid hk4
        have c0 := hk4.cells.1
        have z0 := hk4.frozen 0
        clear hW4 hX hk4
        have HK5 := Lib.hid (HK4'.out.set0 id)
        go_upto_region 11 with fail
        obtain ⟨W5, hW5⟩ : ∃ W, W4.setCell ⟨S, 0, none⟩ (.int .i64 id) = W := ⟨_, rfl⟩
        rw [hW5] at HK5
        rw [hW5]
        clear hW5 c0 z0 HK4' HJ0
        obtain ⟨B, hB⟩ : ∃ B, (((n1.k : Int) == 0) && decide ((id : Int) ≤ la)) = B := ⟨_, rfl⟩
        have HB : Hid ((B = true → t1 = failS n1 9 tk.p) ∧ (B = false → t1 = n1)) := by
          rw [HS1.out, ← hB]
          constructor
          · intro h
            simp at h
            exact need_no _ _ _ (by simp; omega)
          · intro h
            by_cases hk1 : n1.k = 0
            · simp [hk1] at h
              exact need_so _ _ _ (by simp; omega)
            · exact need_bad hk1
        have HB1 := Lib.hid hB
        clear hB HS1
        go_cut [50] from 41 to 50 (fun b wx => b = .bool B ∧ GK X S n1 id 0 (.slice none 0 0) (.slice none 0 0) [] [] (.slice none 0 0) (.slice none 0 0) [] [] tk L u6 w wx)
        case first =>
          have d0 := HK5.out.cells.1
          have dk := HK5.out.xk
          cases b1 : ((n1.k : Int) == 0) with
          | true =>
            cases b2 : decide ((id : Int) ≤ la) with
            | true =>
              go_wp2
              go_meet
              case rel => exact ⟨by rw [← HB1.out, b1, b2]; rfl, HK5.out⟩
            | false =>
              go_wp2
              go_meet
              case rel => exact ⟨by rw [← HB1.out, b1, b2]; rfl, HK5.out⟩
          | false =>
            go_wp2
            go_meet
            case rel => exact ⟨by rw [← HB1.out, b1]; rfl, HK5.out⟩
        case rest =>
        obtain ⟨rfl, hcg⟩ := hcut
        have HKC := Lib.hid hcg
        clear hcg HK5 HB1
        go_upto_if 50 with fail
        go_cut [] from 51 to 53 (fun wx => GK X S t1 id 0 (.slice none 0 0) (.slice none 0 0) [] [] (.slice none 0 0) (.slice none 0 0) [] [] tk L u6 w wx)
        case first =>
          cases B with
          | true =>
            have e1 := HB.out.1 rfl
            have HFL := Lib.hid (fun W => rfail_any n1 9 tk.p W (by omega))
            obtain ⟨f1, hf1⟩ : ∃ x, failS n1 9 tk.p = x := ⟨_, rfl⟩
            rw [hf1] at e1 HFL
            clear hf1
            go_wp2_with (first
              | ((with_reducible show wpList _ _ _ _ _ _); refine wpList_load_row rfl 44 (.tmp 11) rfl (X) rfl 44 (rdC n1) (0, 0) _ HKC.out.x Tryd.underlying44 rfl (by rw [HSR.out]; rfl) ?_))
            refine (HFL.out _).mono ?_
            rintro e w6 ⟨rfl, hb6⟩
            have HK6 := Lib.hid (HKC.out.keep hb6)
            clear hb6
            go_wp2_with (first
              | ((with_reducible show wpList _ _ _ _ _ _); refine wpList_store_row rfl 44 (.tmp 11) (.tmp 53) rfl (X) (rdC f1) rfl rfl 44 (rdC n1) HK6.out.x (by rw [HSR.out]; rfl) rfl (one_rd _) ?_))
            go_meet
            case rel => rw [e1]; exact HK6.out.setx f1
          | false =>
            have e1 := HB.out.2 rfl
            go_wp2
            go_meet
            case rel => rw [e1]; exact HKC.out
        case rest =>
        have HK6 := Lib.hid hcut
        clear hcut HKC HB
        go_wp2_with (first
          | ((with_reducible show wpList _ _ _ _ _ _); refine wpList_load_row rfl 44 (.tmp 11) rfl (X) rfl 44 (rdC t1) (0, 0) _ HK6.out.x Tryd.underlying44 rfl (by rw [HSR.out]; rfl) ?_))
        refine (HTK.out _).mono ?_
        rintro e w7 ⟨x1, ⟨rfl, hb7⟩, _, hy7⟩
        have HY7 := Lib.hid hy7
        have HK7 := Lib.hid (HK6.out.keep hb7)
        have HK8 := Lib.hid (HK7.out.setx t2)
        have c8 := HK8.out.cells.2.1
        have z8 := HK8.out.frozen 1
        have HK9 := Lib.hid (HK8.out.set1 x1)
        clear hb7 hy7 HTK HK6
        go_upto_region 14 with (first
          | ((with_reducible show wpList _ _ _ _ _ _); refine wpList_store_row rfl 44 (.tmp 11) (.tmp 57) rfl (X) (rdC t2) rfl rfl 44 (rdC t1) HK7.out.x (by rw [HSR.out]; rfl) rfl (one_rd _) ?_))
        obtain ⟨W9, hW9⟩ : ∃ W, (w7.setRow X (rdC t2)).setCell ⟨S, 1, none⟩ (.int .i64 x1) = W := ⟨_, rfl⟩
        rw [hW9] at HK9
        rw [hW9]
        clear hW9 c8 z8 HK7 HK8
        go_wp2_with (first
          | ((with_reducible show wpList _ _ _ _ _ _); refine wpList_load_row rfl 44 (.tmp 11) rfl (X) rfl 44 (rdC t2) (0, 0) _ HK9.out.x Tryd.underlying44 rfl (by rw [HSR.out]; rfl) ?_))
        refine (HM1.out _).mono ?_
        rintro e w10 ⟨l1, R1, rfl, hr10, hl10, he10, hb10⟩
        have HE10 := Lib.hid he10
        have HL10 := Lib.hid hl10
        have hr11 := row_base hr10 (show w.heap.size + 2 ≤ W9.heap.size by have h1 := HK9.out.hx; have h2 := lt_of_block HK9.out.x; omega)
        obtain ⟨A1, c1, rfl, _, _⟩ := own_at3 hr10
        have HK10 := Lib.hid ((HK9.out.keep hb10).with1 hr11)
        have HK11 := Lib.hid (HK10.out.setx t3)
        clear hb10 he10 hl10 hr10 hr11 HM1 HK9
        go_upto_region 15 with (first
          | ((with_reducible show wpList _ _ _ _ _ _); refine wpList_store_row rfl 44 (.tmp 11) (.tmp 63) rfl (X) (rdC t3) rfl rfl 44 (rdC t2) HK10.out.x (by rw [HSR.out]; rfl) rfl (one_rd _) ?_))
        obtain ⟨W11, hW11⟩ : ∃ W, w10.setRow X (rdC t3) = W := ⟨_, rfl⟩
        rw [hW11] at HK11
        rw [hW11]
        clear hW11 HK10
        go_wp2_with (first
          | ((with_reducible show wpList _ _ _ _ _ _); refine wpList_load_row rfl 44 (.tmp 11) rfl (X) rfl 44 (rdC t3) (0, 0) _ HK11.out.x Tryd.underlying44 rfl (by rw [HSR.out]; rfl) ?_))
        refine (HM2.out _).mono ?_
        rintro e w12 ⟨l2, R2, rfl, hr12, hl12, he12, hb12⟩
        have HE12 := Lib.hid he12
        have HL12 := Lib.hid hl12
        have hr13 := row_base hr12 (show w.heap.size + 2 ≤ W11.heap.size by have h1 := HK11.out.hx; have h2 := lt_of_block HK11.out.x; omega)
        obtain ⟨A2, c2, rfl, _, _⟩ := own_at3 hr12
        have HK12 := Lib.hid ((HK11.out.keep hb12).with2 hr13)
        have HK13 := Lib.hid (HK12.out.setx t4)
        clear hb12 he12 hl12 hr12 hr13 HM2 HK11
        go_upto_region 16 with (first
          | ((with_reducible show wpList _ _ _ _ _ _); refine wpList_store_row rfl 44 (.tmp 11) (.tmp 68) rfl (X) (rdC t4) rfl rfl 44 (rdC t3) HK12.out.x (by rw [HSR.out]; rfl) rfl (one_rd _) ?_))
        obtain ⟨W13, hW13⟩ : ∃ W, w12.setRow X (rdC t4) = W := ⟨_, rfl⟩
        rw [hW13] at HK13
        rw [hW13]
        clear hW13 HK12
        go_wp2_with fail
        obtain ⟨wo, hwo⟩ : ∃ wo, wo = wr := ⟨_, rfl⟩
        clear hwo
        go_loopw [15] (fun i wr => WRelW X S t4 id x1 (.slice A1 l1.length c1) (.slice A2 l2.length c2) l1 l2 tk L u6 w i wr) (fun i _ => l1.length - (intOf i).toNat)
        case atStart => exact ⟨0, _, Nat.zero_le _, rfl, HK13.out⟩
        case round =>
          obtain ⟨j, VW, hj, rfl, hg⟩ := hrel
          have HG := Lib.hid hg
          clear hg HK13
          by_cases hjl : j < l1.length
          · obtain ⟨x, hx⟩ : ∃ x, l1[j]? = some x := ⟨_, List.getElem?_eq_getElem hjl⟩
            obtain ⟨y, hy, d1, d2, d3⟩ := own_acts3 HG.out.j.r1 j x hx
            subst hy
            have HX := Lib.hid hx
            have HTJ := Lib.hid (take_more l1 j x hx)
            have HLJ : Hid ((l1.take j).length = j) := by show _ = _; rw [List.length_take]; omega
            obtain ⟨xs, xp, xa⟩ := x
            dsimp only at d1 d2 d3
            have e2 := HG.out.cells.2.2.1
            have z2 := HG.out.frozen 2
            have hj0 : (0 : Int) ≤ (j : Int) := by omega
            have hja : (j : Int) < (l1.length : Int) := by omega
            have hjm : l1.length ≤ 65535 := HL10.out
            have HGA := Lib.hid (HG.out.keep ((Below.refl _ _).alloc (Nat.le_refl _) (.cells #[.int .i64 xs, .int .i64 xp, .int .i64 xa] 59))).drew
            have e3 := HGA.out.cells.2.2.1
            have HOW : Hid ((wr.alloc (.cells #[.int .i64 xs, .int .i64 xp, .int .i64 xa] 59)).drew.ownsRow (S + 1) 59 3 VW j (flatA (l1.take j))) := by
              have h := HGA.out.j.ow
              rw [HLJ.out] at h
              exact h
            have HGB := Lib.hid (HG.out.drew.keep ((Below.refl _ _).alloc (Nat.le_refl _) (.cells #[.int .i64 xs, .int .i64 xp, .int .i64 xa] 59)))
            have HOB : Hid ((wr.drew.alloc (.cells #[.int .i64 xs, .int .i64 xp, .int .i64 xa] 59)).ownsRow (S + 1) 59 3 VW j (flatA (l1.take j))) := by
              have h := HGB.out.j.ow
              rw [HLJ.out] at h
              exact h
            clear hx
            go_upto_region 19 with fail
            rw [show Op.load 48 (Operand.tmp 76) = ld2 48 (Operand.tmp 76) from rfl]
            go_region_held3 (fun wx => wx.cell? (y.add (j * 3)) = some (.int .i64 xs) ∧ wx.cell? ⟨(y.add (j * 3)).block, (y.add (j * 3)).off + 1, none⟩ = some (.int .i64 xp) ∧ wx.cell? ⟨(y.add (j * 3)).block, (y.add (j * 3)).off + 2, none⟩ = some (.int .i64 xa)) (first | exact HKQ.out | exact HKP.out | (refine ⟨?_, ?_, ?_⟩ <;> first | assumption | (go_keep; done)) | (go_keep; done))
              (first
                | (
                    refine step_append_own (s := .tmp 77) (x := .tmp 94) (t := 48) rfl rfl (base := S + 1) (e := 59) (i := i1) (z := .agg #[.int .i64 0, .int .i64 0, .int .i64 0]) (size := 3) (bytes := 24) Tryd.underlying48 hi1 hy0 hy1 hy2 rfl (by decide) (v := VW) (n := j) (xs := flatA (l1.take j)) rfl HOW.out ⟨wr.heap.size, 0, none⟩ 1 1 [.int .i64 xs, .int .i64 xp, .int .i64 xa] rfl rfl (new3d _ _ _ _ _) (one3 _ _ _) ?_ ?_ ?_ ?_
                    · have h1 := HLJ.out; have h2 := HL10.out; unfold maxLen; omega
                    · have h1 := HLJ.out; have h2 := HL10.out; omega
                    · have h1 := lt_of_block HGA.out.j.s; omega
                    intro v' w' ho hg
                    obtain ⟨A5, c5, rfl⟩ := row_slice ho
                    have HGW := Lib.hid (HGA.out.grownW (x := ⟨xs, xp, xa⟩) hg (by rw [List.length_append, HLJ.out]; rfl) ho)
                    have HKP := Lib.hid (HGA.out.afterW hg HX.out)
                    have HKQ := Lib.hid (acts_cells (own_acts3 HGW.out.2.j.r1) HX.out)
                    have z5 := frozen_of_row w' _ 2 _ _ HGW.out.1
                    have e5 := (row_cells4 HGW.out.1).2.2.1
                    clear ho hg)
                | (
                    refine step_append_own (s := .tmp 77) (x := .tmp 94) (t := 48) rfl rfl (base := S + 1) (e := 59) (i := i1) (z := .agg #[.int .i64 0, .int .i64 0, .int .i64 0]) (size := 3) (bytes := 24) Tryd.underlying48 hi1 hy0 hy1 hy2 rfl (by decide) (v := VW) (n := j) (xs := flatA (l1.take j)) rfl HOB.out ⟨wr.heap.size, 0, none⟩ 1 1 [.int .i64 xs, .int .i64 xp, .int .i64 xa] rfl rfl (new3e _ _ _ _ _) (one3 _ _ _) ?_ ?_ ?_ ?_
                    · have h1 := HLJ.out; have h2 := HL10.out; unfold maxLen; omega
                    · have h1 := HLJ.out; have h2 := HL10.out; omega
                    · have h1 := lt_of_block HGB.out.j.s; omega
                    intro v' w' ho hg
                    obtain ⟨A5, c5, rfl⟩ := row_slice ho
                    have HGW := Lib.hid (HGB.out.grownW (x := ⟨xs, xp, xa⟩) hg (by rw [List.length_append, HLJ.out]; rfl) ho)
                    have HKP := Lib.hid (HGB.out.afterW hg HX.out)
                    have HKQ := Lib.hid (acts_cells (own_acts3 HGW.out.2.j.r1) HX.out)
                    have z5 := frozen_of_row w' _ 2 _ _ HGW.out.1
                    have e5 := (row_cells4 HGW.out.1).2.2.1
                    clear ho hg))
            all_goals
              go_wp2
              go_roundw
              case rel => exact ⟨j + 1, _, by omega, by go_num, by rw [HTJ.out]; exact HGW.out.2⟩
              case measure => simp [intOf]; omega
          · have hjn : ¬ (j : Int) < (l1.length : Int) := by omega
            have HTL : Hid (l1.take j = l1) := by show _ = _; rw [List.take_of_length_le (by omega)]
            have HK14 := HG
            rw [HTL.out] at HK14
            clear HG
            go_wp2_with fail
            obtain ⟨wp, hwp⟩ : ∃ wp, wp = wr := ⟨_, rfl⟩
            clear hwp
            go_loopw [16] (fun i wr => WRelN X S t4 id x1 VW (.slice A1 l1.length c1) (.slice A2 l2.length c2) l1 l2 tk L u6 w i wr) (fun i _ => l2.length - (intOf i).toNat)
            case atStart => exact ⟨0, _, Nat.zero_le _, rfl, HK14.out⟩
            case round =>
              obtain ⟨j, VN, hj, rfl, hg⟩ := hrel
              have HG := Lib.hid hg
              clear hg HK14
              by_cases hjl : j < l2.length
              · obtain ⟨x, hx⟩ : ∃ x, l2[j]? = some x := ⟨_, List.getElem?_eq_getElem hjl⟩
                obtain ⟨y, hy, d1, d2, d3⟩ := own_acts3 HG.out.j.r2 j x hx
                subst hy
                have HX := Lib.hid hx
                have HTJ := Lib.hid (take_more l2 j x hx)
                have HLJ : Hid ((l2.take j).length = j) := by show _ = _; rw [List.length_take]; omega
                obtain ⟨xs, xp, xa⟩ := x
                dsimp only at d1 d2 d3
                have e2 := HG.out.cells.2.2.2
                have z2 := HG.out.frozen 3
                have hj0 : (0 : Int) ≤ (j : Int) := by omega
                have hja : (j : Int) < (l2.length : Int) := by omega
                have hjm : l2.length ≤ 65535 := HL12.out
                have HGA := Lib.hid (HG.out.keep ((Below.refl _ _).alloc (Nat.le_refl _) (.cells #[.int .i64 xs, .int .i64 xp, .int .i64 xa] 68))).drew
                have e3 := HGA.out.cells.2.2.2
                have HOW : Hid ((wr.alloc (.cells #[.int .i64 xs, .int .i64 xp, .int .i64 xa] 68)).drew.ownsRow (S + 1) 68 3 VN j (flatA (l2.take j))) := by
                  have h := HGA.out.j.on
                  rw [HLJ.out] at h
                  exact h
                have HGB := Lib.hid (HG.out.drew.keep ((Below.refl _ _).alloc (Nat.le_refl _) (.cells #[.int .i64 xs, .int .i64 xp, .int .i64 xa] 68)))
                have HOB : Hid ((wr.drew.alloc (.cells #[.int .i64 xs, .int .i64 xp, .int .i64 xa] 68)).ownsRow (S + 1) 68 3 VN j (flatA (l2.take j))) := by
                  have h := HGB.out.j.on
                  rw [HLJ.out] at h
                  exact h
                clear hx
                go_upto_region 23 with fail
                rw [show Op.load 49 (Operand.tmp 103) = ld2 49 (Operand.tmp 103) from rfl]
                go_region_held3 (fun wx => wx.cell? (y.add (j * 3)) = some (.int .i64 xs) ∧ wx.cell? ⟨(y.add (j * 3)).block, (y.add (j * 3)).off + 1, none⟩ = some (.int .i64 xp) ∧ wx.cell? ⟨(y.add (j * 3)).block, (y.add (j * 3)).off + 2, none⟩ = some (.int .i64 xa)) (first | exact HKQ.out | exact HKP.out | (refine ⟨?_, ?_, ?_⟩ <;> first | assumption | (go_keep; done)) | (go_keep; done))
                  (first
                    | (
                        refine step_append_own (s := .tmp 104) (x := .tmp 121) (t := 49) rfl rfl (base := S + 1) (e := 68) (i := i2) (z := .agg #[.int .i64 0, .int .i64 0, .int .i64 0]) (size := 3) (bytes := 24) Tryd.underlying49 hi2 hx0 hx1 hx2 rfl (by decide) (v := VN) (n := j) (xs := flatA (l2.take j)) rfl HOW.out ⟨wr.heap.size, 0, none⟩ 1 1 [.int .i64 xs, .int .i64 xp, .int .i64 xa] rfl rfl (new3d _ _ _ _ _) (one3 _ _ _) ?_ ?_ ?_ ?_
                        · have h1 := HLJ.out; have h2 := HL12.out; unfold maxLen; omega
                        · have h1 := HLJ.out; have h2 := HL12.out; omega
                        · have h1 := lt_of_block HGA.out.j.s; omega
                        intro v' w' ho hg
                        obtain ⟨A5, c5, rfl⟩ := row_slice ho
                        have HGW := Lib.hid (HGA.out.grownN (x := ⟨xs, xp, xa⟩) hg (by rw [List.length_append, HLJ.out]; rfl) ho)
                        have HKP := Lib.hid (HGA.out.afterN hg HX.out)
                        have HKQ := Lib.hid (acts_cells (own_acts3 HGW.out.2.j.r2) HX.out)
                        have z5 := frozen_of_row w' _ 3 _ _ HGW.out.1
                        have e5 := (row_cells4 HGW.out.1).2.2.2
                        clear ho hg)
                    | (
                        refine step_append_own (s := .tmp 104) (x := .tmp 121) (t := 49) rfl rfl (base := S + 1) (e := 68) (i := i2) (z := .agg #[.int .i64 0, .int .i64 0, .int .i64 0]) (size := 3) (bytes := 24) Tryd.underlying49 hi2 hx0 hx1 hx2 rfl (by decide) (v := VN) (n := j) (xs := flatA (l2.take j)) rfl HOB.out ⟨wr.heap.size, 0, none⟩ 1 1 [.int .i64 xs, .int .i64 xp, .int .i64 xa] rfl rfl (new3e _ _ _ _ _) (one3 _ _ _) ?_ ?_ ?_ ?_
                        · have h1 := HLJ.out; have h2 := HL12.out; unfold maxLen; omega
                        · have h1 := HLJ.out; have h2 := HL12.out; omega
                        · have h1 := lt_of_block HGB.out.j.s; omega
                        intro v' w' ho hg
                        obtain ⟨A5, c5, rfl⟩ := row_slice ho
                        have HGW := Lib.hid (HGB.out.grownN (x := ⟨xs, xp, xa⟩) hg (by rw [List.length_append, HLJ.out]; rfl) ho)
                        have HKP := Lib.hid (HGB.out.afterN hg HX.out)
                        have HKQ := Lib.hid (acts_cells (own_acts3 HGW.out.2.j.r2) HX.out)
                        have z5 := frozen_of_row w' _ 3 _ _ HGW.out.1
                        have e5 := (row_cells4 HGW.out.1).2.2.2
                        clear ho hg))
                all_goals
                  go_wp2
                  go_roundw
                  case rel => exact ⟨j + 1, _, by omega, by go_num, by rw [HTJ.out]; exact HGW.out.2⟩
                  case measure => simp [intOf]; omega
              · have hjm2 : ¬ (j : Int) < (l2.length : Int) := by omega
                have HTM : Hid (l2.take j = l2) := by show _ = _; rw [List.take_of_length_le (by omega)]
                have HK15 := HG
                rw [HTM.out] at HK15
                obtain ⟨AW, cW, hVW⟩ := row_slice HK15.out.j.ow
                obtain ⟨AN, cN, hVN⟩ := row_slice HK15.out.j.on
                subst hVW hVN
                have HKC := Lib.hid HK15.out.copy
                clear HG
                go_upto_region 25 with (first
                  | ((with_reducible show wpList _ _ _ _ _ _); refine wpList_load_row rfl 44 (.tmp 11) rfl (X) rfl 44 (rdC t4) (0, 0) _ HK15.out.x Tryd.underlying44 rfl (by rw [HSR.out]; rfl) ?_)
                  | ((with_reducible show wpList _ _ _ _ _ _); refine wpList_store_row rfl 44 (.tmp 2) (.tmp 124) rfl (w.heap.size) (rdC t4) rfl rfl 44 (rdC tk) HK15.out.j.g.rd (by rw [HSR.out]; rfl) rfl (one_rd _) ?_))
                obtain ⟨WC, hWC⟩ : ∃ W, wr.setRow w.heap.size (rdC t4) = W := ⟨_, rfl⟩
                rw [hWC] at HKC
                rw [hWC]
                have q0 := HKC.out.cells.1
                have HKA := Lib.hid (HKC.out.keep ((Below.refl _ _).alloc (Nat.le_refl _) (.cells #[.int .i64 id, .int .i64 x1, .slice AW l1.length cW, .slice AN l2.length cN] 51)))
                clear hWC HK15
                go_wp2_with (first
                  | ((with_reducible show wpList _ _ _ _ _ _); refine wpList_load_row rfl 51 (.tmp 10) rfl (S) rfl 51 (#[.int .i64 id, .int .i64 x1, .slice AW l1.length cW, .slice AN l2.length cN]) (0, 0) _ HKC.out.j.s Tryd.underlying51 rfl (by rw [HSC.out]; rfl) ?_)
                  | (at_builtin; refine wpList_append_own _ rfl _ _ 23 rfl (w.heap.size + 2) 51 i0 (.agg #[.int .i64 0, .int .i64 0, .slice none 0 0, .slice none 0 0]) 4 64 Tryd.underlying23 hi hz0 hz1 hz2 rfl (by decide) _ L.length _ rfl HKA.out.j.g.own ⟨WC.heap.size, 0, none⟩ 1 1 [.int .i64 id, .int .i64 x1, .slice AW l1.length cW, .slice AN l2.length cN] rfl rfl (new4 _ _ _ _ _ _) (one4 _ _ _ _ _ _ _ _) (by have h1 := HLK.out; have h2 := HKB.out; unfold maxLen; omega) (by have h1 := HLK.out; have h2 := HKB.out; omega) (by have h1 := lt_of_block HKA.out.j.g.res; omega) ?_))
                intro v' w7 ho7 hg7 _
                have HG7 := Lib.hid (HKA.out.done hg7 rfl ho7)
                clear ho7 hg7 q0 HKA HKC
                have hkb := HKB.out
                have hk1 : IntKind.i64.wrap ((k : Int) + 1) = (k : Int) + 1 := IntWalk.i64_in _ (by omega)
                go_wp2
                go_roundw
                case rel => exact ⟨k + 1, id, L ++ [(⟨id, x1, l1, l2⟩, .slice AW l1.length cW, .slice AN l2.length cN)], by omega, by go_num, rfl, (by have := HLK.out; simp; omega), (fun h => by
                  rw [HNX.out] at h ⊢
                  have h4 : t4.k = 0 := h
                  obtain ⟨h3, h2⟩ := HK4.out h4
                  refine ⟨?_, by rw [lastS_snoc]⟩
                  rw [List.map_append, HLM.out, HY7.out h2, HE10.out h3, HE12.out h4]
                  rfl), by rw [HNX.out]; exact HG7.out⟩
                case measure => simp [intOf]; omega
      · have HST := Lib.hid (itS_stay T k hk0 (N - k))
        rw [show k + (N - k) = N by omega] at HST
        have HPO : Hid (∀ e w', GPost (itS T k).1 (itS T k).2 w e w' → GPost (itS T N).1 (itS T N).2 w e w') := fun e w' h => by rw [HST.out]; exact h
        obtain ⟨tk, htk⟩ : ∃ x, (itS T k).1 = x := ⟨_, rfl⟩
        rw [htk] at HF hk0
        rw [htk] at HPO
        have HK := Lib.hid hk0
        have tkn : ((tk.k : Int) == 0) = false := by simp; exact hk0
        have tkm : ((tk.k : Int) != 0) = true := by simp; exact hk0
        have hq3 := rdk HF.out.rd
        have HFN := Lib.hid (setRow_heap _ _ _ (rdC tk) _ _ HF.out.res)
        clear hk0 htk HST
        go_wp2_with (first
          | ((with_reducible show wpList _ _ _ _ _ _); refine wpList_load_row rfl 44 (.tmp 2) rfl (w.heap.size) rfl 44 (rdC tk) (0, 0) _ HF.out.rd Tryd.underlying44 rfl (by rw [HSR.out]; rfl) ?_)
          | ((with_reducible show wpList _ _ _ _ _ _); refine wpList_store_row rfl 44 (.tmp 4) (.tmp 135) rfl (w.heap.size + 1) (rdC tk) rfl rfl 44 (rd0) HF.out.res (by rw [HSR.out]; rfl) rfl (one_rd _) ?_))
        refine bodyPost_ret (v := .tuple #[.agg (rdC tk), .slice none 0 0]) (results_row_tmp (fn := Tryd.f16) (p := 4) (u := 5) (ty := 44) rfl _ _ (w.heap.size + 1) 44 _ (0, 0) _ rfl HFN.out Tryd.underlying44 rfl (by rw [HSR.out]; rfl)) rfl (HPO.out _ _ ⟨_, [], rfl, .inl ⟨HK.out, rfl⟩, Hdr.below_set2 HF.out.below (by omega)⟩)
    · obtain rfl : k = N := by omega
      have hkn : ¬ (k : Int) < n := by have := HNN.out; omega
      by_cases hk0 : (itS T k).1.k = 0
      · obtain ⟨hlm, hla⟩ := HLV.out hk0
        have HLM := Lib.hid hlm
        obtain ⟨tk, htk⟩ : ∃ x, (itS T k).1 = x := ⟨_, rfl⟩
        rw [htk] at HF hk0
        have HPO : Hid (∀ e w', GPost tk (itS T k).2 w e w' → GPost (itS T k).1 (itS T k).2 w e w') := fun e w' h => by rw [htk]; exact h
        have HK := Lib.hid hk0
        have tkn : ((tk.k : Int) == 0) = true := by simp; exact hk0
        have tkm : ((tk.k : Int) != 0) = false := by simp; exact hk0
        have hq3 := rdk HF.out.rd
        have HFN := Lib.hid (setRow_heap _ _ _ (rdC tk) _ _ HF.out.res)
        have HKP : Hid (∀ {B m : Nat} {T' : TypeId} {s : Nat} {U : Value} {xs : List Value}, wr.ownsRow B T' s U m xs → T' ≠ 44 → w.heap.size ≤ B → (wr.setRow (w.heap.size + 1) (rdC tk)).ownsRow w.heap.size T' s U m xs) := fun h hT hB => row_base (row_beside h (just_row _ _ _) (own_apart h hT HF.out.res)) hB
        clear hk0 htk hlm hla HLV
        go_wp2_with (first
          | ((with_reducible show wpList _ _ _ _ _ _); refine wpList_load_row rfl 44 (.tmp 2) rfl (w.heap.size) rfl 44 (rdC tk) (0, 0) _ HF.out.rd Tryd.underlying44 rfl (by rw [HSR.out]; rfl) ?_)
          | ((with_reducible show wpList _ _ _ _ _ _); refine wpList_store_row rfl 44 (.tmp 4) (.tmp 136) rfl (w.heap.size + 1) (rdC tk) rfl rfl 44 (rd0) HF.out.res (by rw [HSR.out]; rfl) rfl (one_rd _) ?_))
        refine bodyPost_ret (v := .tuple #[.agg (rdC tk), u6]) (results_row_tmp (fn := Tryd.f16) (p := 4) (u := 5) (ty := 44) rfl _ _ (w.heap.size + 1) 44 _ (0, 0) _ rfl HFN.out Tryd.underlying44 rfl (by rw [HSR.out]; rfl)) rfl (HPO.out _ _ ⟨_, L, rfl, .inr ⟨HK.out, HLM.out, HKP.out HF.out.own (by decide) (by omega), (fun q hq => HKP.out (HF.out.subW q hq) (by decide) (by omega)), fun q hq => HKP.out (HF.out.subN q hq) (by decide) (by omega)⟩, Hdr.below_set2 HF.out.below (by omega)⟩)
      · obtain ⟨tk, htk⟩ : ∃ x, (itS T k).1 = x := ⟨_, rfl⟩
        rw [htk] at HF hk0
        have HPO : Hid (∀ e w', GPost tk (itS T k).2 w e w' → GPost (itS T k).1 (itS T k).2 w e w') := fun e w' h => by rw [htk]; exact h
        have HK := Lib.hid hk0
        have tkn : ((tk.k : Int) == 0) = false := by simp; exact hk0
        have tkm : ((tk.k : Int) != 0) = true := by simp; exact hk0
        have hq3 := rdk HF.out.rd
        have HFN := Lib.hid (setRow_heap _ _ _ (rdC tk) _ _ HF.out.res)
        clear hk0 htk HLV
        go_wp2_with (first
          | ((with_reducible show wpList _ _ _ _ _ _); refine wpList_load_row rfl 44 (.tmp 2) rfl (w.heap.size) rfl 44 (rdC tk) (0, 0) _ HF.out.rd Tryd.underlying44 rfl (by rw [HSR.out]; rfl) ?_)
          | ((with_reducible show wpList _ _ _ _ _ _); refine wpList_store_row rfl 44 (.tmp 4) (.tmp 135) rfl (w.heap.size + 1) (rdC tk) rfl rfl 44 (rd0) HF.out.res (by rw [HSR.out]; rfl) rfl (one_rd _) ?_))
        refine bodyPost_ret (v := .tuple #[.agg (rdC tk), .slice none 0 0]) (results_row_tmp (fn := Tryd.f16) (p := 4) (u := 5) (ty := 44) rfl _ _ (w.heap.size + 1) 44 _ (0, 0) _ rfl HFN.out Tryd.underlying44 rfl (by rw [HSR.out]; rfl)) rfl (HPO.out _ _ ⟨_, [], rfl, .inl ⟨HK.out, rfl⟩, Hdr.below_set2 HF.out.below (by omega)⟩)
end Go.Proofs.YtbcjkongcnpdlaaDoor.Scd

namespace Go.Proofs.YtbcjkongcnpdlaaDoor.Scd

open Go.RowKit Go.PlainAid Go.Proofs.YtbcjkongcnpdlaaDoor.Oct Go.Proofs.YtbcjkongcnpdlaaDoor.Flt Go.Proofs.YtbcjkongcnpdlaaDoor.Rdr Go.Proofs.YtbcjkongcnpdlaaDoor.Act

set_option linter.unusedVariables false

set_option linter.unusedSimpArgs false

theorem getN_div (s : ByteArray) (p : Nat) : ∀ m j, getN s p (j + m) / 256 ^ m = getN s p j
  | 0, j => by simp
  | m + 1, j => by
    have ih := getN_div s p m j
    have hb := bt_toNat_le s (p + (j + m))
    rw [show j + (m + 1) = (j + m) + 1 by omega, getN, Nat.pow_succ, Nat.mul_comm (256 ^ m) 256, ← Nat.div_div_eq_div_mul]
    rw [show (256 * getN s p (j + m) + (bt s (p + (j + m))).toNat) / 256 = getN s p (j + m) by omega]
    exact ih
theorem low_at (v : Nat) : ∀ (k i : Nat), i < k → (low v k)[i]? = some ((v / 256 ^ (k - 1 - i) % 256 : Nat) : Int)
  | 0, i, h => by omega
  | k + 1, 0, h => by simp [low]
  | k + 1, i + 1, h => by
    have ih := low_at v k i (by omega)
    simp only [low, List.getElem?_cons_succ]
    rw [ih, show k + 1 - 1 - (i + 1) = k - 1 - i by omega]
theorem low_getN (s : ByteArray) (p n i : Nat) (h : i < n) : (low (getN s p n) n)[i]? = some (bt s (p + i)) := by
  rw [low_at _ n i h]
  have e := getN_div s p (n - 1 - i) (i + 1)
  rw [show i + 1 + (n - 1 - i) = n by omega] at e
  rw [e, getN]
  have h1 := bt_nonneg s (p + i)
  have h2 := bt_le s (p + i)
  have h3 : (256 * getN s p i + (bt s (p + i)).toNat) % 256 = (bt s (p + i)).toNat := by omega
  rw [h3]
  congr 1
  omega
/-- These bytes stand in a text from a place on. -/
def AtS (s : ByteArray) (p : Nat) (L : List Int) : Prop := p + L.length ≤ s.size ∧ ∀ j, j < L.length → L[j]? = some (bt s (p + j))
theorem AtS.append {s : ByteArray} {p : Nat} {L M : List Int} (h : AtS s p L) (k : AtS s (p + L.length) M) : AtS s p (L ++ M) := by
  refine ⟨by rw [List.length_append]; have := k.1; omega, fun j hj => ?_⟩
  rw [List.length_append] at hj
  rcases Nat.lt_or_ge j L.length with hl | hl
  · rw [List.getElem?_append_left hl]; exact h.2 j hl
  · rw [List.getElem?_append_right hl, k.2 (j - L.length) (by omega), show p + L.length + (j - L.length) = p + j by omega]
theorem knum {t : St} {n : Nat} (h : (numS t n).k = 0) : t.k = 0 ∧ numS t n = { t with p := t.p + n } ∧ AtS t.s t.p (low (numV t n) n) := by
  unfold numS at h ⊢
  split at h
  · rename_i h0
    rw [if_pos h0]
    split at h
    · rename_i h1
      rw [if_pos h1]
      refine ⟨h0, rfl, ?_⟩
      have hv : numV t n = getN t.s t.p n := by
        unfold numV getV
        rw [if_pos h0, if_pos h1]
        simp
      have hsz : t.p + n ≤ t.s.size := by unfold getB at h1; simp at h1; omega
      rw [hv]
      exact ⟨by rw [low_length]; exact hsz, fun j hj => low_getN _ _ _ _ (by rw [low_length] at hj; exact hj)⟩
    · rename_i h1
      have := fail_k h0 t.p
      omega
  · rename_i h0
    exact absurd h h0
theorem kneed {t : St} {b : Bool} {k a : Int} (h1 : 1 ≤ k) (h2 : k ≤ 18) (h : (needS b t k a).k = 0) : needS b t k a = t ∧ b = true := by
  have hb := need_k h1 h2 h
  exact ⟨need_so _ _ _ hb, hb⟩
theorem ktk {t : St} {least : Int} (h : (tkS t least).k = 0) : t.k = 0 ∧ tkS t least = { t with p := t.p + 4 } ∧ AtS t.s t.p (low (numV t 4) 4) ∧ tkB (numV t 4) least = true := by
  obtain ⟨e, hb⟩ := kneed (t := numS t 4) (by omega) (by omega) h
  have h' : (numS t 4).k = 0 := by rw [← e]; exact h
  obtain ⟨h0, e2, ha⟩ := knum h'
  exact ⟨h0, by show needS _ _ _ _ = _; rw [e, e2], ha, hb⟩
theorem kcn {t : St} {n : Nat} {most : Int} (h : (cnS t n most).k = 0) : t.k = 0 ∧ cnS t n most = { t with p := t.p + n } ∧ cnV t n most = numV t n ∧ AtS t.s t.p (low (numV t n) n) ∧ (numV t n : Int) ≤ most := by
  obtain ⟨e, hb⟩ := kneed (t := numS t n) (by omega) (by omega) h
  have h' : (numS t n).k = 0 := by rw [← e]; exact h
  obtain ⟨h0, e2, ha⟩ := knum h'
  exact ⟨h0, by show needS _ _ _ _ = _; rw [e, e2], by unfold cnV; rw [if_pos h], ha, of_decide_eq_true hb⟩
theorem low_1n (n : Nat) (v : Nat) : (low v n).length = n := low_length v n
theorem krw {t : St} (h : (rwS t).k = 0) : t.k = 0 ∧ rwS t = { t with p := t.p + 9 } ∧ AtS t.s t.p (rowBy (rwV t)) ∧ rowB (rwV t) = true := by
  obtain ⟨h2, e3, a3, b3⟩ := ktk (t := tkS (numS t 1) 0) h
  obtain ⟨h1, e2, a2, b2⟩ := ktk h2
  obtain ⟨h0, e1, a1⟩ := knum h1
  have hv := u8_le t
  refine ⟨h0, ?_, ?_, ?_⟩
  · show tkS (tkS (numS t 1) 0) 0 = _
    rw [e3, e2, e1]
  · have ev : rowBy (rwV t) = low (numV t 1) 1 ++ (low (numV (numS t 1) 4) 4 ++ low (numV (tkS (numS t 1) 0) 4) 4) := by
      unfold rowBy rwV tkBy
      simp
    rw [ev]
    refine a1.append ?_
    rw [low_length]
    have hs1 : (numS t 1).s = t.s ∧ (numS t 1).p = t.p + 1 := by rw [e1]; exact ⟨rfl, rfl⟩
    rw [hs1.1, hs1.2] at a2
    refine a2.append ?_
    rw [low_length]
    have hs2 : (tkS (numS t 1) 0).s = t.s ∧ (tkS (numS t 1) 0).p = t.p + 1 + 4 := by rw [e2, hs1.1.symm, hs1.2.symm]; exact ⟨rfl, rfl⟩
    rw [hs2.1, hs2.2] at a3
    exact a3
  · unfold rowB rwV
    dsimp only
    rw [b2, b3]
    have : idB ((numV t 1 : Nat) : Int) = true := by unfold idB; simp; omega
    rw [this]; rfl
theorem krows (t : St) : ∀ n, (rwN t n).1.k = 0 → (rwN t n).1 = { t with p := t.p + n * 9 } ∧ (0 < n → AtS t.s t.p (rowsBy (rwN t n).2)) ∧ ∀ y ∈ (rwN t n).2, rowB y = true
  | 0, h => by
    refine ⟨?_, fun h => absurd h (by omega), fun y hy => by simp [rwN] at hy⟩
    show t = _
    cases t; simp
  | n + 1, h => by
    rw [rwN] at h ⊢
    dsimp only at h ⊢
    obtain ⟨h0, e, ha, hb⟩ := krw h
    obtain ⟨e0, a0, b0⟩ := krows t n h0
    have hs : (rwN t n).1.s = t.s ∧ (rwN t n).1.p = t.p + n * 9 := by rw [e0]; exact ⟨rfl, rfl⟩
    refine ⟨?_, fun _ => ?_, fun y hy => ?_⟩
    · rw [e, e0]
      simp only [St.mk.injEq, true_and, and_true]
      omega
    · rw [hs.1, hs.2] at ha
      rw [rowsBy_snoc]
      rcases Nat.eq_zero_or_pos n with rfl | hn
      · simpa [rwN, rowsBy] using ha
      · refine (a0 hn).append ?_
        rw [rowsBy_len, rwN_len]
        exact ha
    · rcases List.mem_append.1 hy with hy | hy
      · exact b0 y hy
      · obtain rfl : y = _ := by simpa using hy
        exact hb
/-- A count and its rows. -/
theorem kmany {t : St} {n : Nat} {most : Int} (hm : most ≤ 65535) (h : (mnS t n most).k = 0) : t.k = 0 ∧ mnS t n most = { t with p := t.p + n + (mnL t n most).length * 9 } ∧ AtS t.s t.p (low (mnL t n most).length n ++ rowsBy (mnL t n most)) ∧ ((mnL t n most).length : Int) ≤ most ∧ (∀ y ∈ mnL t n most, rowB y = true) := by
  have hc : (cnS t n most).k = 0 := rwN_k0 h
  obtain ⟨h0, e1, ev, a1, b1⟩ := kcn hc
  have hr : (rwN (cnS t n most) (cnV t n most)).1.k = 0 := h
  obtain ⟨e2, a2, b2⟩ := krows (cnS t n most) (cnV t n most) hr
  have hl : (mnL t n most).length = numV t n := by unfold mnL; rw [rwN_len, ev]
  have hs : (cnS t n most).s = t.s ∧ (cnS t n most).p = t.p + n := by rw [e1]; exact ⟨rfl, rfl⟩
  refine ⟨h0, ?_, ?_, by rw [hl]; exact b1, b2⟩
  · unfold mnS
    rw [e2, hl, ev, e1]
  · rw [hl]
    rcases Nat.eq_zero_or_pos (numV t n) with hz | hz
    · have : mnL t n most = [] := List.length_eq_zero_iff.1 (by rw [hl]; exact hz)
      rw [this]
      simpa [rowsBy] using a1
    · refine a1.append ?_
      rw [low_length]
      have := a2 (by rw [ev]; exact hz)
      rw [hs.1, hs.2] at this
      exact this
theorem kone {t : St} {la : Int} (h : (onS t la).k = 0) : t.k = 0 ∧ onS t la = { t with p := t.p + (schBy (onV t la)).length } ∧ AtS t.s t.p (schBy (onV t la)) ∧ rgS (onV t la) = 0 ∧ la < (onV t la).id := by
  rw [on_mn] at h ⊢
  rw [onV_mn]
  obtain ⟨h3, e4, a4, b4, r4⟩ := kmany (by omega) h
  obtain ⟨h2, e3, a3, b3, r3⟩ := kmany (by omega) h3
  obtain ⟨h1, e2, a2, b2⟩ := ktk h2
  obtain ⟨en, hb⟩ := kneed (t := numS t 1) (by omega) (by omega) h1
  have h1' : (numS t 1).k = 0 := by rw [← en]; exact h1
  obtain ⟨h0, e1, a1⟩ := knum h1'
  have es : s1S t la = { t with p := t.p + 1 } := by show needS _ _ _ _ = _; rw [en, e1]
  have hv := u8_le t
  obtain ⟨W, hW⟩ : ∃ W, mnL (tkS (s1S t la) 1) 2 256 = W := ⟨_, rfl⟩
  obtain ⟨M, hM⟩ : ∃ M, mnL (mnS (tkS (s1S t la) 1) 2 256) 1 32 = M := ⟨_, rfl⟩
  obtain ⟨fr, hfr⟩ : ∃ f, numV (s1S t la) 4 = f := ⟨_, rfl⟩
  rw [hM] at e4 a4 b4 r4 ⊢
  rw [hW] at e3 a3 b3 r3 ⊢
  rw [hfr] at a2 b2 ⊢
  have p1 : (s1S t la).s = t.s ∧ (s1S t la).p = t.p + 1 := by rw [es]; exact ⟨rfl, rfl⟩
  have p2 : (tkS (s1S t la) 1).s = t.s ∧ (tkS (s1S t la) 1).p = t.p + 1 + 4 := by rw [e2, ← p1.1, ← p1.2]; exact ⟨rfl, rfl⟩
  have p3 : (mnS (tkS (s1S t la) 1) 2 256).s = t.s ∧ (mnS (tkS (s1S t la) 1) 2 256).p = t.p + 1 + 4 + 2 + W.length * 9 := by rw [e3, ← p2.1, ← p2.2]; exact ⟨rfl, rfl⟩
  rw [p1.1, p1.2] at a2
  rw [p2.1, p2.2] at a3
  rw [p3.1, p3.2] at a4
  have hsb : schBy ⟨numV t 1, fr, W, M⟩ = low (numV t 1) 1 ++ (low fr 4 ++ ((low W.length 2 ++ rowsBy W) ++ (low M.length 1 ++ rowsBy M))) := by
    unfold schBy tkBy
    simp
  refine ⟨h0, ?_, ?_, ?_, ?_⟩
  · rw [e4, hsb]
    have e3' : mnS (tkS (s1S t la) 1) 2 256 = { t with p := t.p + 1 + 4 + 2 + W.length * 9 } := by
      rw [e3, e2, es]
    rw [e3']
    simp only [St.mk.injEq, true_and, and_true, List.length_append, low_length, rowsBy_len]
    omega
  · rw [hsb]
    refine a1.append ?_
    rw [low_length]
    refine a2.append ?_
    rw [low_length]
    refine a3.append ?_
    rw [List.length_append, low_length, rowsBy_len, show t.p + 1 + 4 + (2 + W.length * 9) = t.p + 1 + 4 + 2 + W.length * 9 by omega]
    exact a4
  · unfold rgS
    dsimp only
    have i1 : idB ((numV t 1 : Nat) : Int) = true := by unfold idB; simp; omega
    rw [i1, b2, if_neg (by simp), if_neg (by simp; omega)]
    rw [List.all_eq_true.2 r3, if_neg (by simp), if_neg (by simp; omega), List.all_eq_true.2 r4, if_neg (by simp)]
  · have := of_decide_eq_true hb
    exact this
theorem fb_more {α : Type} (f : List α → α → Nat) (x : α) : ∀ (l pre : List α), (Prt.fb f pre l).1 = 0 → f (pre ++ l) x = 0 → (Prt.fb f pre (l ++ [x])).1 = 0
  | [], pre, _, h => by rw [List.append_nil] at h; show (Prt.fb f pre [x]).1 = 0; rw [Prt.fb, if_pos h]; rfl
  | y :: l, pre, h, hx => by
    rw [List.cons_append, Prt.fb]
    rw [Prt.fb] at h
    split at h
    · rename_i h0
      rw [if_pos h0]
      exact fb_more f x l (pre ++ [y]) h (by simpa using hx)
    · rename_i h0
      exact absurd h h0
theorem kall (T : St) (hT : T.p ≤ T.s.size) : ∀ i, (itS T i).1.k = 0 → (itS T i).1 = { T with p := T.p + (textS (itS T i).2).length } ∧ AtS T.s T.p (textS (itS T i).2) ∧ (badS (itS T i).2).1 = 0 ∧ (itS T i).2.length = i
  | 0, h => by
    refine ⟨?_, ⟨by show T.p + 0 ≤ _; omega, fun j hj => by simp [itS, textS] at hj⟩, rfl, rfl⟩
    show T = _
    cases T; simp [itS, textS]
  | i + 1, h => by
    rw [itS] at h ⊢
    split at h
    · rename_i h0
      rw [if_pos h0]
      obtain ⟨e, ha, hb, hl⟩ := kall T hT i h0
      obtain ⟨l, hl2⟩ : ∃ l, (itS T i).2 = l := ⟨_, rfl⟩
      obtain ⟨u, hu⟩ : ∃ u, (itS T i).1 = u := ⟨_, rfl⟩
      rw [hl2] at h e ha hb hl ⊢
      rw [hu] at h h0 e ⊢
      dsimp only at h ⊢
      obtain ⟨_, e1, a1, r1, g1⟩ := kone h
      have hs : u.s = T.s ∧ u.p = T.p + (textS l).length := by rw [e]; exact ⟨rfl, rfl⟩
      refine ⟨?_, ?_, ?_, by simp; omega⟩
      · rw [e1, textS_snoc, List.length_append, e]
        simp only [St.mk.injEq, true_and, and_true]
        omega
      · rw [textS_snoc]
        rw [hs.1, hs.2] at a1
        exact ha.append a1
      · refine fb_more b1S _ l [] hb ?_
        show b1S l _ = 0
        unfold b1S
        rw [if_pos r1, if_neg (by omega)]
    · rename_i h0
      exact absurd h h0
theorem front_str (s : ByteArray) (L : List Int) (h : AtS s 0 L) : s.extract 0 L.length = strOfNums L := by
  obtain ⟨hL, h⟩ := h
  apply ByteArray.ext
  rw [ByteArray.data_extract]
  apply Array.ext
  · have : s.data.size = s.size := rfl
    simp [strOfNums]; omega
  · intro i h1 h2
    have hi : i < L.length := by simp [strOfNums] at h2; exact h2
    have hs : i < s.size := by omega
    have e : L[i] = bt s i := by have := h i hi; rw [List.getElem?_eq_getElem hi, Nat.zero_add] at this; exact Option.some.inj this
    simp [strOfNums]
    rw [e, ← get_bt s i hs]
    simp
    rfl
theorem sch_long (x : SC) : 8 ≤ (schBy x).length := by
  unfold schBy
  simp only [List.length_append, low_length, tkBy_len, rowsBy_len]
  simp; omega
theorem text_long (l : List SC) : l.length * 8 ≤ (textS l).length := by
  induction l with
  | nil => simp [textS]
  | cons x l ih =>
    have h1 := sch_long x
    have e : textS (x :: l) = schBy x ++ textS l := rfl
    rw [e, List.length_append, List.length_cons]
    omega
/-- What is read of a text from its beginning. -/
theorem sread_back (s : ByteArray) (N : Nat) (h : (rdS ⟨s, 0, 0, 0, 0, 0⟩ N).k = 0) :
    ∃ l, rdL ⟨s, 0, 0, 0, 0, 0⟩ N = l ∧ rdS ⟨s, 0, 0, 0, 0, 0⟩ N = ⟨s, (textS l).length, 3, 0, 0, 0⟩ ∧ (badS l).1 = 0 ∧ strOfNums (textS l) = s.extract 0 (textS l).length ∧ (textS l).length ≤ s.size ∧ l.length * 8 ≤ s.size := by
  obtain ⟨e, ha, hb, hl⟩ := kall (secS ⟨s, 0, 0, 0, 0, 0⟩ 3) (Nat.zero_le _) N h
  have ha' : AtS s 0 (textS (itS (secS ⟨s, 0, 0, 0, 0, 0⟩ 3) N).2) := ha
  have hsz : 0 + (textS (itS (secS ⟨s, 0, 0, 0, 0, 0⟩ 3) N).2).length ≤ s.size := ha'.1
  refine ⟨_, rfl, ?_, hb, (front_str s _ ha').symm, ?_, ?_⟩
  · unfold rdS rdL
    rw [e]
    show St.mk s (0 + _) 3 0 0 0 = _
    rw [Nat.zero_add]
  · unfold rdL; omega
  · have := text_long (itS (secS ⟨s, 0, 0, 0, 0, 0⟩ 3) N).2
    unfold rdL; omega
theorem most_rounds (s : ByteArray) (hs : s.size ≤ 1099511627776) (k : Nat) (h : (itS (secS ⟨s, 0, 0, 0, 0, 0⟩ 3) k).1.k = 0) : k ≤ 1099511627776 := by
  obtain ⟨_, ha, _, hl⟩ := kall (secS ⟨s, 0, 0, 0, 0, 0⟩ 3) (Nat.zero_le _) k h
  have h1 := text_long (itS (secS ⟨s, 0, 0, 0, 0, 0⟩ 3) k).2
  have h2 : 0 + (textS (itS (secS ⟨s, 0, 0, 0, 0, 0⟩ 3) k).2).length ≤ s.size := ha.1
  omega
end Go.Proofs.YtbcjkongcnpdlaaDoor.Scd
