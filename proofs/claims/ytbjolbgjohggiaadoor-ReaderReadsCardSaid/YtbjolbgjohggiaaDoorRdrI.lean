
/- What the law on package reader's calls does of both readers: Enter, Fail, Need, and calls of no kind; and all kinds together. Condition: the table of names holds what the program lays there. -/

import Derived.Test.YtbjolbgjohggiaaDoorRdrH

namespace Go.Proofs.YtbjolbgjohggiaaDoor.Rdr

open Go.RowKit Go.PlainAid Go.Proofs.YtbjolbgjohggiaaDoor.Flt Go.Proofs.YtbjolbgjohggiaaDoor.Oct

set_option linter.unusedVariables false

theorem IsRdr.far {w W : World} {g : Nat} {t : St} (h : IsRdr w g t) (hg : W.heap[g]? = w.heap[g]?) (hk : KeptW w W) : IsRdr W g t := by
  obtain ⟨x, h1, h2⟩ := h
  exact ⟨x, hg.trans h1, h2.kept hk⟩
theorem keptW_two {w W : World} {b c : Nat} {cs ds : Array Value} (hb : w.heap[b]? = some (.cells cs 30 (0, 0))) (hc : w.heap[c]? = some (.cells ds 30 (0, 0))) (h : ∀ k, k ≠ b → k ≠ c → W.heap[k]? = w.heap[k]?) : KeptW w W := by
  intro k es hk
  refine h k ?_ ?_
  · rintro rfl; rw [hb] at hk; simp at hk
  · rintro rfl; rw [hc] at hk; simp at hk
theorem o_just {g : Nat} {t : St} {w w1 : World} {op : Array Value} (hr : IsRdr w g t) (j : Just g (O0 w t op) w1) :
    w1.heap[w.heap.size]? = some (.cells (rdC t) 30 (0, 0)) ∧ w1.heap[w.heap.size + 1]? = some (.cells op 32 (0, 0)) ∧ w1.heap[w.heap.size + 2]? = some (.cells rd0 30 (0, 0)) ∧ Just g w w1 := by
  have hlt := hr.lt
  have h0 : (O0 w t op).heap[w.heap.size]? = some (.cells (rdC t) 30 (0, 0)) := by
    unfold O0
    rw [Below.heap_alloc _ _ _ (by simp; omega), Below.heap_alloc _ _ _ (by simp)]
    exact heap_alloc_new _ _
  have h1 : (O0 w t op).heap[w.heap.size + 1]? = some (.cells op 32 (0, 0)) := of_op (Below.refl _ _)
  refine ⟨?_, ?_, ?_, (Just.of_below (o0_below w t op)).trans j⟩
  · rw [j.block _ (by rw [o0_size]; omega) (by omega)]; exact h0
  · rw [j.block _ (by rw [o0_size]; omega) (by omega)]; exact h1
  · rw [j.block _ (by rw [o0_size]; omega) (by omega)]; exact o0_res w t op
/-- Two rows of one's own are set. -/
theorem just_rows {g : Nat} {w w1 W : World} {b c : Nat} (j : Just g w w1) (hb : w.heap.size ≤ b) (hc : w.heap.size ≤ c) (bl : Below 0 w1 W) (h : ∀ k, k ≠ b → k ≠ c → W.heap[k]? = w1.heap[k]?) : Just g w W :=
  ⟨bl.os.trans j.os, bl.tape.trans j.tape, bl.output.trans j.output, Nat.le_trans j.size bl.size, fun k hk hg => (h k (by omega) (by omega)).trans (j.block k hk hg)⟩
theorem below0_setRow (w : World) (b : Nat) (cs : Array Value) : Below 0 w (w.setRow b cs) := ⟨rfl, rfl, rfl, by simp, fun k hk => by omega⟩
set_option maxRecDepth 8000 in
set_option maxHeartbeats 1600000 in
theorem one_6 (g : Nat) (t : St) (N E : Int) (B : Bool) (w : World) (h : IsRdr w g t) :
    Calls Tryd.prog 11 #[.pointer (some ⟨g, 0, none⟩), .agg (rdC t), .agg (opC 6 N E B)] w (OPost g (secS t N) w) := by
  have HEN : Hid (Calls Tryd.prog 22 #[.pointer (some ⟨g, 0, none⟩), .int .i64 N] (O0 w t (opC 6 N E B)) fun e w' => e = .returned (.tuple #[]) ∧ IsRdr w' g (secS t N) ∧ Just g (O0 w t (opC 6 N E B)) w') := enter_any g t N _ (h.kept (o0_below _ _ _))
  have hgl := h.lt
  have HJ : Hid (∀ w1, Just g (O0 w t (opC 6 N E B)) w1 → w1.heap[w.heap.size]? = some (.cells (rdC t) 30 (0, 0)) ∧ w1.heap[w.heap.size + 1]? = some (.cells (opC 6 N E B) 32 (0, 0)) ∧ w1.heap[w.heap.size + 2]? = some (.cells rd0 30 (0, 0)) ∧ Just g w w1) := fun w1 j => o_just h j
  clear h
  dsimp only [O0, rdC, opC, rd0] at HEN
  unfold rdC opC
  go_enter Tryd.func11, Tryd.ntmps11
  go_wp2_with fail
  refine (HEN.out).mono ?_
  rintro e w1 ⟨rfl, hr1, hj1⟩
  obtain ⟨hb, ho, hs, hju⟩ := HJ.out w1 hj1
  have HR1 := Lib.hid hr1
  have HJU := Lib.hid hju
  have HB := Lib.hid hb
  have HS0 := Lib.hid hs
  have c1 : w1.cell? ⟨w.heap.size + 1, 1, none⟩ = some (.int .i64 N) := by rw [cell_of_row w1 _ _ _ _ _ ho]; rfl
  have c2 : w1.cell? ⟨w.heap.size, 2, none⟩ = some (.int .i64 t.sec) := by rw [cell_of_row w1 _ _ _ _ _ hb]; rfl
  have cf : w1.frozen? ⟨w.heap.size, 2, none⟩ = false := frozen_of_row w1 _ _ _ _ hb
  have HROW : Hid ((w1.setCell ⟨w.heap.size, 2, none⟩ (.int .i64 N)).heap[w.heap.size]? = some (.cells (rdC (secS t N)) 30 (0, 0))) := by
    show _ = _; rw [heap_setCell_same w1 _ _ _ _ _ hb]; rfl
  have HRES : Hid ((w1.setCell ⟨w.heap.size, 2, none⟩ (.int .i64 N)).heap[w.heap.size + 1 + 1]? = some (.cells rd0 30 (0, 0))) := by
    show _ = _; rw [heap_setCell_other w1 _ _ _ (show w.heap.size + 1 + 1 ≠ w.heap.size by omega)]; exact hs
  clear hb ho hs hju hr1 hj1 HEN HJ
  go_wp2_with (first
    | ((with_reducible show wpList _ _ _ _ _ _); refine wpList_load_row rfl 30 (.tmp 4) rfl w.heap.size rfl 30 _ (0, 0) _ HROW.out Tryd.underlying30 rfl (by rw [size_rd]; rfl) ?_)
    | ((with_reducible show wpList _ _ _ _ _ _); refine wpList_store_row rfl 30 (.tmp 6) (.tmp 135) rfl (w.heap.size + 1 + 1) (rdC (secS t N)) rfl rfl 30 rd0 HRES.out (by rw [size_rd]; rfl) rfl (one_rd _) ?_))
  refine bodyPost_ret (v := .tuple #[.agg (rdC (secS t N)), .bool true]) (results_row_tmp (fn := Tryd.f11) (p := 6) (u := 7) (ty := 30) rfl _ (World.setRow (w1.setCell ⟨w.heap.size, 2, none⟩ (.int .i64 N)) (w.heap.size + 1 + 1) (rdC (secS t N))) (w.heap.size + 1 + 1) 30 _ (0, 0) _ rfl (setRow_heap (w1.setCell ⟨w.heap.size, 2, none⟩ (.int .i64 N)) (w.heap.size + 1 + 1) rd0 (rdC (secS t N)) 30 (0, 0) HRES.out) Tryd.underlying30 rfl (by rw [size_rd]; rfl)) rfl ⟨rfl, ?_, ?_⟩
  · refine (HR1.out.far ?_ (keptW_two HB.out HS0.out ?_))
    · rw [setRow_other _ _ _ _ (by omega), heap_setCell_other w1 _ _ _ (show g ≠ w.heap.size by omega)]
    · intro k h1 h2; rw [setRow_other _ _ _ _ (by omega), heap_setCell_other w1 _ _ _ h1]
  · refine just_rows (b := w.heap.size) (c := w.heap.size + 2) HJU.out (by omega) (by omega) (((Below.refl 0 w1).setCell (p := ⟨w.heap.size, 2, none⟩) (Nat.zero_le _) _).trans (below0_setRow _ _ _)) ?_
    intro k h1 h2; rw [setRow_other _ _ _ _ (by omega), heap_setCell_other w1 _ _ _ h1]
set_option maxRecDepth 8000 in
set_option maxHeartbeats 1600000 in
theorem one_7 (g : Nat) (t : St) (N E : Int) (B : Bool) (w : World) (hn : Names w) (h : IsRdr w g t) (hE : -9223372036854775808 ≤ E ∧ E ≤ 9223372036854775807) :
    Calls Tryd.prog 11 #[.pointer (some ⟨g, 0, none⟩), .agg (rdC t), .agg (opC 7 N E B)] w (OPost g (failS t E N) w) := by
  have HEN : Hid (Calls Tryd.prog 35 #[.pointer (some ⟨g, 0, none⟩), .int .i64 E, .int .i64 N] (O0 w t (opC 7 N E B)) (FPost g (failS t E N) (O0 w t (opC 7 N E B)))) := fail_any g t E N _ (hn.kept (o0_below _ _ _)) hE (h.kept (o0_below _ _ _))
  have HRF := Lib.hid (fun w => rfail_any t E N w hE)
  have hgl := h.lt
  have HJ : Hid (∀ w1, Just g (O0 w t (opC 7 N E B)) w1 → w1.heap[w.heap.size]? = some (.cells (rdC t) 30 (0, 0)) ∧ w1.heap[w.heap.size + 1]? = some (.cells (opC 7 N E B) 32 (0, 0)) ∧ w1.heap[w.heap.size + 2]? = some (.cells rd0 30 (0, 0)) ∧ Just g w w1) := fun w1 j => o_just h j
  obtain ⟨T, hT⟩ : ∃ T, failS t E N = T := ⟨_, rfl⟩
  rw [hT] at HEN HRF ⊢
  clear h hn hT hE
  dsimp only [O0, rdC, opC, rd0] at HEN
  unfold rdC opC
  go_enter Tryd.func11, Tryd.ntmps11
  go_wp2_with fail
  refine (HEN.out).mono ?_
  rintro e w1 ⟨rfl, hr1, hj1⟩
  obtain ⟨hb, ho, hs, hju⟩ := HJ.out w1 hj1
  have HR1 := Lib.hid hr1
  have HJU := Lib.hid hju
  have HB := Lib.hid hb
  have HS0 := Lib.hid hs
  have c1 : w1.cell? ⟨w.heap.size + 1, 1, none⟩ = some (.int .i64 N) := by rw [cell_of_row w1 _ _ _ _ _ ho]; rfl
  have c2 : w1.cell? ⟨w.heap.size + 1, 2, none⟩ = some (.int .i64 E) := by rw [cell_of_row w1 _ _ _ _ _ ho]; rfl
  have HBL : Hid (∀ w2, Below w1.heap.size w1 w2 → w2.heap[w.heap.size]? = some (.cells (rdC t) 30 (0, 0)) ∧ w2.heap[w.heap.size + 2]? = some (.cells rd0 30 (0, 0))) := fun w2 hb2 => ⟨(hb2.block _ (lt_of_block hb)).trans hb, (hb2.block _ (lt_of_block hs)).trans hs⟩
  clear hb ho hs hju hr1 hj1 HEN HJ
  go_wp2_with (first
    | (go_at_call 36; refine (HRF.out _).mono ?_; rintro e w2 ⟨rfl, hb2⟩; have HR2 := Lib.hid (HR1.out.kept hb2); have HJ2 := Lib.hid (HJU.out.trans (Just.of_below hb2)); have HB2 := Lib.hid (HBL.out w2 hb2).1; have HS2 := Lib.hid (HBL.out w2 hb2).2; have HB3 : Hid ((w2.setRow w.heap.size (rdC T)).heap[w.heap.size]? = some (.cells (rdC T) 30 (0, 0))) := (setRow_heap _ _ _ _ _ _ HB2.out); have HS3 : Hid ((w2.setRow w.heap.size (rdC T)).heap[w.heap.size + 1 + 1]? = some (.cells rd0 30 (0, 0))) := ((setRow_other _ _ _ _ (by omega)).trans HS2.out); clear hb2)
    | ((with_reducible show wpList _ _ _ _ _ _); refine wpList_load_row rfl 30 (.tmp 4) rfl w.heap.size rfl 30 _ (0, 0) _ HB.out Tryd.underlying30 rfl (by rw [size_rd]; rfl) ?_)
    | ((with_reducible show wpList _ _ _ _ _ _); refine wpList_store_row rfl 30 (.tmp 4) (.tmp 109) rfl w.heap.size (rdC T) rfl rfl 30 (rdC t) HB2.out (by rw [size_rd]; rfl) rfl (one_rd _) ?_)
    | ((with_reducible show wpList _ _ _ _ _ _); refine wpList_load_row rfl 30 (.tmp 4) rfl w.heap.size rfl 30 _ (0, 0) _ HB3.out Tryd.underlying30 rfl (by rw [size_rd]; rfl) ?_)
    | ((with_reducible show wpList _ _ _ _ _ _); refine wpList_store_row rfl 30 (.tmp 6) (.tmp 135) rfl (w.heap.size + 1 + 1) (rdC T) rfl rfl 30 rd0 HS3.out (by rw [size_rd]; rfl) rfl (one_rd _) ?_))
  refine bodyPost_ret (v := .tuple #[.agg (rdC T), .bool true]) (results_row_tmp (fn := Tryd.f11) (p := 6) (u := 7) (ty := 30) rfl _ (World.setRow (w2.setRow w.heap.size (rdC T)) (w.heap.size + 1 + 1) (rdC T)) (w.heap.size + 1 + 1) 30 _ (0, 0) _ rfl (setRow_heap (w2.setRow w.heap.size (rdC T)) (w.heap.size + 1 + 1) rd0 (rdC T) 30 (0, 0) HS3.out) Tryd.underlying30 rfl (by rw [size_rd]; rfl)) rfl ⟨rfl, ?_, ?_⟩
  · refine (HR2.out.far ?_ (keptW_two HB2.out HS2.out ?_))
    · rw [setRow_other _ _ _ _ (by omega), setRow_other _ _ _ _ (by omega)]
    · intro k h1 h2; rw [setRow_other _ _ _ _ (by omega), setRow_other _ _ _ _ h1]
  · refine just_rows (b := w.heap.size) (c := w.heap.size + 2) HJ2.out (by omega) (by omega) ((below0_setRow _ _ _).trans (below0_setRow _ _ _)) ?_
    intro k h1 h2; rw [setRow_other _ _ _ _ (by omega), setRow_other _ _ _ _ h1]
set_option maxRecDepth 8000 in
set_option maxHeartbeats 1600000 in
theorem one_0 (g : Nat) (t : St) (K N E : Int) (B : Bool) (w : World) (h : IsRdr w g t) (hK : K < 1 ∨ 8 < K) :
    Calls Tryd.prog 11 #[.pointer (some ⟨g, 0, none⟩), .agg (rdC t), .agg (opC K N E B)] w (OPost g t w) := by
  have k1 : (K == 1) = false := by simp; omega
  have k2 : (K == 2) = false := by simp; omega
  have k3 : (K == 3) = false := by simp; omega
  have k4 : (K == 4) = false := by simp; omega
  have k5 : (K == 5) = false := by simp; omega
  have k6 : (K == 6) = false := by simp; omega
  have k7 : (K == 7) = false := by simp; omega
  have k8 : (K == 8) = false := by simp; omega
  have H0 : Hid (∀ o1 o2 o3 : Obj, Below w.heap.size w (((w.alloc o1).alloc o2).alloc o3)) := fun o1 o2 o3 => (((Below.refl _ _).alloc (Nat.le_refl _) _).alloc (by simp) _).alloc (by simp; omega) _
  have H := Lib.hid h
  clear h hK
  unfold rdC opC
  go_enter Tryd.func11, Tryd.ntmps11
  go_wp2
  exact bodyPost_ret (v := .tuple #[.agg (rdC t), .bool true]) (by simp [results, Tryd.results11, go_sem, rdC]) rfl ⟨rfl, H.out.kept (H0.out _ _ _), Just.of_below (H0.out _ _ _)⟩
/-- What is known ahead of Need: both rows and the call's own. -/
structure OW (g : Nat) (T : St) (N E : Int) (B : Bool) (w W : World) : Prop where
  row : W.heap[w.heap.size]? = some (.cells (rdC T) 30 (0, 0))
  op : W.heap[w.heap.size + 1]? = some (.cells (opC 8 N E B) 32 (0, 0))
  res : W.heap[w.heap.size + 2]? = some (.cells rd0 30 (0, 0))
  just : Just g w W
  lt : g < w.heap.size
theorem ow_og {g : Nat} {T : St} {N E : Int} {B : Bool} {w W w2 : World} (h : OW g T N E B w W) (j : Just g W w2) :
    OG g T w w.heap.size w2 ∧ w2.cell? ⟨w.heap.size + 1, 1, none⟩ = some (.int .i64 N) ∧ w2.cell? ⟨w.heap.size + 1, 2, none⟩ = some (.int .i64 E) ∧ w2.cell? ⟨w.heap.size + 1, 3, none⟩ = some (.bool B) := by
  have hl := h.lt
  have hr := (j.block _ (lt_of_block h.row) (by omega)).trans h.row
  have ho := (j.block _ (lt_of_block h.op) (by omega)).trans h.op
  have hs := (j.block _ (lt_of_block h.res) (by omega)).trans h.res
  refine ⟨⟨?_, ?_, ?_, ?_, ?_, ?_, ?_, ?_, ?_, ?_, ?_, ?_, fun o => frozen_of_row w2 _ _ _ _ hs⟩, ?_, ?_, ?_⟩
  all_goals first | (rw [cell_of_row w2 _ _ _ _ _ hr]; rfl) | (rw [cell_of_row w2 _ _ _ _ _ hs]; rfl) | (rw [cell_of_row w2 _ _ _ _ _ ho]; rfl)
theorem ow_end {g : Nat} {T : St} {N E : Int} {B : Bool} {w W w2 : World} (h : OW g T N E B w W) (j : Just g W w2) (hr : IsRdr w2 g T) :
    (six w2 (w.heap.size + 2) T).heap[w.heap.size + 2]? = some (.cells (rdC T) 30 (0, 0)) ∧ IsRdr (six w2 (w.heap.size + 2) T) g T ∧ Just g w (six w2 (w.heap.size + 2) T) := by
  have hl := h.lt
  have hs := (j.block _ (lt_of_block h.res) (by omega)).trans h.res
  have hj := h.just.trans j
  refine ⟨six_row hs, hr.far (six_far (by omega)) ?_, ?_⟩
  · intro k cs hk
    refine six_far ?_
    rintro rfl
    rw [hs] at hk
    simp at hk
  · have hx := six_below w2 (w.heap.size + 2) T
    exact ⟨hx.os.trans hj.os, hx.tape.trans hj.tape, hx.output.trans hj.output, by rw [six_size]; exact hj.size, fun k hk hkg => by rw [six_far (by omega)]; exact hj.block k hk hkg⟩
theorem nine_keep {w2 : World} {b c C : Nat} {T : St} {N E : Int} {B : Bool} (hcb : c ≠ b) (hne : C ≠ b) (d0 : w2.cell? ⟨C, 0, none⟩ = some (.string T.s)) (d1 : w2.cell? ⟨C, 1, none⟩ = some (.int .i64 T.p)) (d2 : w2.cell? ⟨C, 2, none⟩ = some (.int .i64 T.sec)) (d3 : w2.cell? ⟨C, 3, none⟩ = some (.int .i64 T.k)) (d4 : w2.cell? ⟨C, 4, none⟩ = some (.int .i64 T.fs)) (d5 : w2.cell? ⟨C, 5, none⟩ = some (.int .i64 T.fa)) (o1 : w2.cell? ⟨c, 1, none⟩ = some (.int .i64 N)) (o2 : w2.cell? ⟨c, 2, none⟩ = some (.int .i64 E)) (o3 : w2.cell? ⟨c, 3, none⟩ = some (.bool B)) :
    (six w2 b T).cell? ⟨C, 0, none⟩ = some (.string T.s) ∧ (six w2 b T).cell? ⟨C, 1, none⟩ = some (.int .i64 T.p) ∧ (six w2 b T).cell? ⟨C, 2, none⟩ = some (.int .i64 T.sec) ∧ (six w2 b T).cell? ⟨C, 3, none⟩ = some (.int .i64 T.k) ∧ (six w2 b T).cell? ⟨C, 4, none⟩ = some (.int .i64 T.fs) ∧ (six w2 b T).cell? ⟨C, 5, none⟩ = some (.int .i64 T.fa) ∧ (six w2 b T).cell? ⟨c, 1, none⟩ = some (.int .i64 N) ∧ (six w2 b T).cell? ⟨c, 2, none⟩ = some (.int .i64 E) ∧ (six w2 b T).cell? ⟨c, 3, none⟩ = some (.bool B) := by
  have h : ∀ o, (six w2 b T).cell? ⟨C, o, none⟩ = w2.cell? ⟨C, o, none⟩ := fun o => World.cell?_of_block (w := w2) (six_far hne)
  have h' : ∀ o, (six w2 b T).cell? ⟨c, o, none⟩ = w2.cell? ⟨c, o, none⟩ := fun o => World.cell?_of_block (w := w2) (six_far hcb)
  rw [h, h, h, h, h, h, h', h', h']
  exact ⟨d0, d1, d2, d3, d4, d5, o1, o2, o3⟩
set_option maxRecDepth 8000 in
set_option maxHeartbeats 1600000 in
theorem one_8t (g : Nat) (T : St) (N E : Int) (w : World) (h : IsRdr w g T) :
    Calls Tryd.prog 11 #[.pointer (some ⟨g, 0, none⟩), .agg (rdC T), .agg (opC 8 N E true)] w (OPost g T w) := by
  have hgl := h.lt
  have HOW : Hid (OW g T N E true w (O0 w T (opC 8 N E true))) := have hj := o_just (op := opC 8 N E true) h (Just.refl g _); ⟨hj.1, hj.2.1, hj.2.2.1, hj.2.2.2, hgl⟩
  have HG : Hid (∀ w2, Just g (O0 w T (opC 8 N E true)) w2 → OG g T w w.heap.size w2 ∧ w2.cell? ⟨w.heap.size + 1, 1, none⟩ = some (.int .i64 N) ∧ w2.cell? ⟨w.heap.size + 1, 2, none⟩ = some (.int .i64 E) ∧ w2.cell? ⟨w.heap.size + 1, 3, none⟩ = some (.bool true)) := fun w2 j => ow_og HOW.out j
  have HE : Hid (∀ w2, Just g (O0 w T (opC 8 N E true)) w2 → IsRdr w2 g T → (six w2 (w.heap.size + 2) T).heap[w.heap.size + 2]? = some (.cells (rdC T) 30 (0, 0)) ∧ IsRdr (six w2 (w.heap.size + 2) T) g T ∧ Just g w (six w2 (w.heap.size + 2) T)) := fun w2 j hr => ow_end HOW.out j hr
  have HUU : Hid (Calls Tryd.prog 37 #[.pointer (some ⟨g, 0, none⟩), .bool true, .int .i64 E, .int .i64 N] ((O0 w T (opC 8 N E true))).drew (fun e w2 => e = .returned (.bool (T.k == 0)) ∧ IsRdr w2 g T ∧ Just g (O0 w T (opC 8 N E true)) w2)) := (need_ok g T E N (World.drew (O0 w T (opC 8 N E true))) ((h.kept (o0_below _ _ _)).drewN 1)).mono fun _ _ ⟨a, b⟩ => ⟨a, by rw [← b]; exact (h.kept (o0_below _ _ _)).drewN 1, by rw [← b]; exact (Just.refl _ _).drewN 1⟩
  have hbb : ((T.k == 0) == ((T.k : Int) == 0)) = true := by rw [show ((T.k : Int) == 0) = (T.k == 0) by rw [Bool.eq_iff_iff]; simp]; simp
  clear h HOW
  dsimp only [O0, rdC, opC, rd0] at HG HUU HE
  unfold rdC opC
  go_enter Tryd.func11, Tryd.ntmps11
  go_wp2_with fail
  obtain ⟨⟨d0, d1, d2, d3, d4, d5, -, -, -, -, -, -, -⟩, d6, d7, d8⟩ := HG.out _ (Just.refl _ _)
  go_region_held3 (fun w' => w'.cell? ⟨w.heap.size, 0, none⟩ = some (.string T.s) ∧ w'.cell? ⟨w.heap.size, 1, none⟩ = some (.int .i64 T.p) ∧ w'.cell? ⟨w.heap.size, 2, none⟩ = some (.int .i64 T.sec) ∧ w'.cell? ⟨w.heap.size, 3, none⟩ = some (.int .i64 T.k) ∧ w'.cell? ⟨w.heap.size, 4, none⟩ = some (.int .i64 T.fs) ∧ w'.cell? ⟨w.heap.size, 5, none⟩ = some (.int .i64 T.fa) ∧ w'.cell? ⟨w.heap.size + 1, 1, none⟩ = some (.int .i64 N) ∧ w'.cell? ⟨w.heap.size + 1, 2, none⟩ = some (.int .i64 E) ∧ w'.cell? ⟨w.heap.size + 1, 3, none⟩ = some (.bool true)) (first | (go_keep; done) | exact HKP.out)
    (first
      | (go_at_call 37; refine (HUU.out).mono ?_; rintro e w2 ⟨rfl, hr2, hj2⟩; obtain ⟨⟨e0, e1, e2, e3, e4, e5, f0, f1, f2, f3, f4, f5, hf⟩, e6, e7, e8⟩ := HG.out w2 hj2; have HEND := Lib.hid (HE.out w2 hj2 hr2); have HKP := Lib.hid (nine_keep (b := w.heap.size + 2) (c := w.heap.size + 1) (C := w.heap.size) (by omega) (by omega) e0 e1 e2 e3 e4 e5 e6 e7 e8); clear hr2 hj2)
      | fail)
  go_wp2
  obtain ⟨hrow, hrd, hju⟩ := HEND.out
  refine bodyPost_ret (v := .tuple #[.agg (rdC T), .bool true]) (results_row_tmp (fn := Tryd.f11) (p := 6) (u := 7) (ty := 30) rfl _ (six w2 (w.heap.size + 2) T) (w.heap.size + 2) 30 _ (0, 0) _ rfl hrow Tryd.underlying30 rfl (by rw [size_rd]; rfl)) rfl ⟨rfl, hrd, hju⟩
set_option maxRecDepth 8000 in
set_option maxHeartbeats 1600000 in
theorem one_8f (g : Nat) (t : St) (N E : Int) (w : World) (hn : Names w) (h : IsRdr w g t) (hE : -9223372036854775808 ≤ E ∧ E ≤ 9223372036854775807) :
    Calls Tryd.prog 11 #[.pointer (some ⟨g, 0, none⟩), .agg (rdC t), .agg (opC 8 N E false)] w (OPost g (failS t E N) w) := by
  have HRF := Lib.hid (fun w => rfail_any t E N w hE)
  have HNE : Hid (∀ w1, Names w1 → IsRdr w1 g t → Calls Tryd.prog 37 #[.pointer (some ⟨g, 0, none⟩), .bool false, .int .i64 E, .int .i64 N] w1 (NPost g (failS t E N) w1)) := fun w1 hn1 hr1 => need_no g t E N w1 hn1 hE hr1
  have hgl := h.lt
  obtain ⟨T, hT⟩ : ∃ T, failS t E N = T := ⟨_, rfl⟩
  rw [hT] at HRF HNE ⊢
  have HJ : Hid (∀ w1, Below (O0 w t (opC 8 N E false)).heap.size (O0 w t (opC 8 N E false)) w1 → Hid (w1.heap[w.heap.size]? = some (.cells (rdC t) 30 (0, 0))) ∧ OW g T N E false w (w1.setRow w.heap.size (rdC T)) ∧ IsRdr (w1.setRow w.heap.size (rdC T)) g t ∧ Names (w1.setRow w.heap.size (rdC T))) := fun w1 hb => by
    obtain ⟨h1, h2, h3, h4⟩ := o_just (op := opC 8 N E false) h (Just.of_below hb)
    have hr1 : IsRdr w1 g t := (h.kept (o0_below _ _ _)).kept hb
    have hn1 : Names w1 := (hn.kept (o0_below w t (opC 8 N E false))).kept hb
    have hfar : ∀ k, k ≠ w.heap.size → (w1.setRow w.heap.size (rdC T)).heap[k]? = w1.heap[k]? := fun k hk => setRow_other _ _ _ _ hk
    have hbl := below0_setRow w1 w.heap.size (rdC T)
    refine ⟨h1, ⟨setRow_heap _ _ _ _ _ _ h1, (hfar _ (by omega)).trans h2, (hfar _ (by omega)).trans h3, ⟨hbl.os.trans h4.os, hbl.tape.trans h4.tape, hbl.output.trans h4.output, Nat.le_trans h4.size hbl.size, fun k hk hkg => (hfar k (by omega)).trans (h4.block k hk hkg)⟩, hgl⟩, hr1.far (hfar g (by omega)) ?_, ?_⟩
    · intro k cs hk
      refine hfar k ?_
      rintro rfl
      rw [h1] at hk
      simp at hk
    · obtain ⟨u, hu⟩ := hn1
      refine ⟨u, (hfar _ ?_).trans hu⟩
      intro hk
      rw [hk, h1] at hu
      simp only [Option.some.injEq, Obj.cells.injEq] at hu
      have := congrArg Array.size hu.1
      simp [rdC, nmCells_size] at this
  have hbb : ((T.k == 0) == ((T.k : Int) == 0)) = true := by rw [show ((T.k : Int) == 0) = (T.k == 0) by rw [Bool.eq_iff_iff]; simp]; simp
  clear h hn hE hT
  dsimp only [O0, opC, rd0] at HJ
  unfold rdC opC
  go_enter Tryd.func11, Tryd.ntmps11
  go_wp2_with (first
    | (go_at_call 36; refine (HRF.out _).mono ?_; rintro e w1 ⟨rfl, hb⟩; obtain ⟨HB1, hOW, hRW, hNW⟩ := HJ.out w1 hb; have HOW := Lib.hid hOW; have HRW := Lib.hid hRW; have HNW := Lib.hid hNW; clear hb hOW hRW hNW)
    | ((with_reducible show wpList _ _ _ _ _ _); refine wpList_store_row rfl 30 (.tmp 4) (.tmp 120) rfl w.heap.size (rdC T) rfl rfl 30 (rdC t) HB1.out (by rw [size_rd]; rfl) rfl (one_rd _) ?_))
  have HG : Hid (∀ w2, Just g (w1.setRow w.heap.size (rdC T)) w2 → OG g T w w.heap.size w2 ∧ w2.cell? ⟨w.heap.size + 1, 1, none⟩ = some (.int .i64 N) ∧ w2.cell? ⟨w.heap.size + 1, 2, none⟩ = some (.int .i64 E) ∧ w2.cell? ⟨w.heap.size + 1, 3, none⟩ = some (.bool false)) := fun w2 j => ow_og HOW.out j
  have HE : Hid (∀ w2, Just g (w1.setRow w.heap.size (rdC T)) w2 → IsRdr w2 g T → (six w2 (w.heap.size + 2) T).heap[w.heap.size + 2]? = some (.cells (rdC T) 30 (0, 0)) ∧ IsRdr (six w2 (w.heap.size + 2) T) g T ∧ Just g w (six w2 (w.heap.size + 2) T)) := fun w2 j hr => ow_end HOW.out j hr
  have HUU : Hid (Calls Tryd.prog 37 #[.pointer (some ⟨g, 0, none⟩), .bool false, .int .i64 E, .int .i64 N] ((w1.setRow w.heap.size (rdC T))).drew (fun e w2 => e = .returned (.bool (T.k == 0)) ∧ IsRdr w2 g T ∧ Just g (w1.setRow w.heap.size (rdC T)) w2)) := (HNE.out (World.drew (w1.setRow w.heap.size (rdC T))) HNW.out (HRW.out.drewN 1)).mono fun _ _ ⟨a, b, c⟩ => ⟨a, b, ((Just.refl _ _).drewN 1).trans c⟩
  clear HOW HRW HNW HJ HB1 HNE HRF
  obtain ⟨⟨d0, d1, d2, d3, d4, d5, -, -, -, -, -, -, -⟩, d6, d7, d8⟩ := HG.out _ (Just.refl _ _)
  go_region_held3 (fun w' => w'.cell? ⟨w.heap.size, 0, none⟩ = some (.string T.s) ∧ w'.cell? ⟨w.heap.size, 1, none⟩ = some (.int .i64 T.p) ∧ w'.cell? ⟨w.heap.size, 2, none⟩ = some (.int .i64 T.sec) ∧ w'.cell? ⟨w.heap.size, 3, none⟩ = some (.int .i64 T.k) ∧ w'.cell? ⟨w.heap.size, 4, none⟩ = some (.int .i64 T.fs) ∧ w'.cell? ⟨w.heap.size, 5, none⟩ = some (.int .i64 T.fa) ∧ w'.cell? ⟨w.heap.size + 1, 1, none⟩ = some (.int .i64 N) ∧ w'.cell? ⟨w.heap.size + 1, 2, none⟩ = some (.int .i64 E) ∧ w'.cell? ⟨w.heap.size + 1, 3, none⟩ = some (.bool false)) (first | (go_keep; done) | exact HKP.out)
    (first
      | (go_at_call 37; refine (HUU.out).mono ?_; rintro e w2 ⟨rfl, hr2, hj2⟩; obtain ⟨⟨e0, e1, e2, e3, e4, e5, f0, f1, f2, f3, f4, f5, hf⟩, e6, e7, e8⟩ := HG.out w2 hj2; have HEND := Lib.hid (HE.out w2 hj2 hr2); have HKP := Lib.hid (nine_keep (b := w.heap.size + 2) (c := w.heap.size + 1) (C := w.heap.size) (by omega) (by omega) e0 e1 e2 e3 e4 e5 e6 e7 e8); clear hr2 hj2)
      | fail)
  go_wp2
  obtain ⟨hrow, hrd, hju⟩ := HEND.out
  refine bodyPost_ret (v := .tuple #[.agg (rdC T), .bool true]) (results_row_tmp (fn := Tryd.f11) (p := 6) (u := 7) (ty := 30) rfl _ (six w2 (w.heap.size + 2) T) (w.heap.size + 2) 30 _ (0, 0) _ rfl hrow Tryd.underlying30 rfl (by rw [size_rd]; rfl)) rfl ⟨rfl, hrd, hju⟩
/-- Every call. -/
theorem one_any (g : Nat) (t : St) (K N E : Int) (B : Bool) (w : World) (hn : Names w) (h : IsRdr w g t) (ho : Ok t) (hE : -9223372036854775808 ≤ E ∧ E ≤ 9223372036854775807) :
    Calls Tryd.prog 11 #[.pointer (some ⟨g, 0, none⟩), .agg (rdC t), .agg (opC K N E B)] w (OPost g (opS t K N E B) w) := by
  rcases (show K = 1 ∨ K = 2 ∨ K = 3 ∨ K = 4 ∨ K = 5 ∨ K = 6 ∨ K = 7 ∨ K = 8 ∨ (K < 1 ∨ 8 < K) by omega) with rfl | rfl | rfl | rfl | rfl | rfl | rfl | rfl | hK
  · exact one_1 g t N E B w hn h ho
  · exact one_2 g t N E B w hn h ho
  · exact one_3 g t N E B w hn h ho
  · exact one_4 g t N E B w hn h ho
  · exact one_5 g t N E B w hn h ho
  · exact one_6 g t N E B w h
  · exact one_7 g t N E B w hn h hE
  · cases B with
    | true => exact one_8t g t N E w h
    | false => exact one_8f g t N E w hn h hE
  · have e : opS t K N E B = t := by
      unfold opS
      rw [if_neg (by omega), if_neg (by omega), if_neg (by omega), if_neg (by omega), if_neg (by omega), if_neg (by omega), if_neg (by omega), if_neg (by omega)]
    rw [e]
    exact one_0 g t K N E B w h hK
theorem ok_op {t : St} (h : Ok t) (K N E : Int) (B : Bool) : Ok (opS t K N E B) := by
  unfold opS
  repeat' split
  all_goals first | exact h | exact ok_num h _ | exact ok_txt h _ | exact ok_fail h _ _ | exact ⟨h.1, h.2⟩
end Go.Proofs.YtbjolbgjohggiaaDoor.Rdr
