
/- A latch: new, asked, at a boundary, its status, a copy. Condition: at most a thousand entries. -/

import Derived.Test.YtbfhcphjeiojmaaLatF

namespace Go.Proofs.Ytbfhcphjeiojmaa.Lat

open Go.RowKit Go.PlainAid Go.Proofs.Ytbfhcphjeiojmaa.Args Go.Proofs.Ytbfhcphjeiojmaa.Cel Go.Proofs.Ytbfhcphjeiojmaa.Mpv

set_option linter.unusedVariables false

set_option linter.unusedSimpArgs false

def lcs (a b c : Nat) (la cu nx : Int) : Array Value := #[.map (some a), .map (some b), .map (some c), .int .u64 la, .int .i64 cu, .int .i64 nx]
theorem size_lat : (Try.prog.info? 75).map (·.size) = some 6 := by kernel_rfl
theorem size_rul : (Try.prog.info? 69).map (·.size) = some 3 := by kernel_rfl
/-- A latch in block q. -/
structure IsL (w : World) (B q a b c : Nat) (s : Int → Bool) (t : P2 → Bool) (u : Int → Bool) (la cu nx : Int) : Prop where
  box : w.heap[q]? = some (.cells (lcs a b c la cu nx) 75 (0, 0))
  ms : BMap w a s 1000
  mt : PMap w b t 1000
  mu : BMap w c u 1000
  qB : B ≤ q
  aq : a ≠ q
  bq : b ≠ q
  cq : c ≠ q
section

variable {w w' : World} {B q a b c : Nat} {s : Int → Bool} {t : P2 → Bool} {u : Int → Bool} {la cu nx : Int}

theorem IsL.keep (h : IsL w B q a b c s t u la cu nx) (e : Below w.heap.size w w') : IsL w' B q a b c s t u la cu nx :=
  ⟨(e.block _ (lt_of_block h.box)).trans h.box, h.ms.keep e, h.mt.keep e, h.mu.keep e, h.qB, h.aq, h.bq, h.cq⟩
theorem IsL.cells (h : IsL w B q a b c s t u la cu nx) : w.cell? ⟨q, 0, none⟩ = some (.map (some a)) ∧ w.cell? ⟨q, 1, none⟩ = some (.map (some b)) ∧ w.cell? ⟨q, 2, none⟩ = some (.map (some c)) ∧ w.cell? ⟨q, 3, none⟩ = some (.int .u64 la) ∧ w.cell? ⟨q, 4, none⟩ = some (.int .i64 cu) ∧ w.cell? ⟨q, 5, none⟩ = some (.int .i64 nx) := by
  refine ⟨?_, ?_, ?_, ?_, ?_, ?_⟩
  all_goals (rw [cell_of_row w _ _ _ _ _ h.box]; rfl)
theorem IsL.free (h : IsL w B q a b c s t u la cu nx) (o : Nat) : w.frozen? ⟨q, o, none⟩ = false := by simp [World.frozen?, h.box]
theorem IsL.rat (h : IsL w B q a b c s t u la cu nx) : RAt w q a b c s t u := ⟨h.cells.1, h.cells.2.1, h.cells.2.2.1, h.ms, h.mt, h.mu⟩
/-- Just block q has changed. -/
def JustL (q : Nat) (w w' : World) : Prop := w'.os = w.os ∧ w'.tape = w.tape ∧ w'.output = w.output ∧ w.heap.size ≤ w'.heap.size ∧ ∀ k, k < w.heap.size → k ≠ q → w'.heap[k]? = w.heap[k]?
theorem JustL.refl (q : Nat) (w : World) : JustL q w w := ⟨rfl, rfl, rfl, Nat.le_refl _, fun _ _ _ => rfl⟩
theorem JustL.of (q : Nat) (e : Below w.heap.size w w') : JustL q w w' := ⟨e.os, e.tape, e.output, e.size, fun k h _ => e.block k h⟩
theorem JustL.trans {w2 : World} (h : JustL q w w') (k : JustL q w' w2) : JustL q w w2 :=
  ⟨k.1.trans h.1, k.2.1.trans h.2.1, k.2.2.1.trans h.2.2.1, Nat.le_trans h.2.2.2.1 k.2.2.2.1, fun i hi hn => (k.2.2.2.2 i (Nat.lt_of_lt_of_le hi h.2.2.2.1) hn).trans (h.2.2.2.2 i hi hn)⟩
theorem JustL.cell (w : World) (q o : Nat) (v : Value) : JustL q w (w.setCell ⟨q, o, none⟩ v) :=
  ⟨rfl, rfl, rfl, by simp, fun k _ hn => heap_setCell_other w ⟨q, o, none⟩ k v hn⟩
theorem JustL.below {w0 : World} (h : Below B w0 w) (k : JustL q w w') (hB : B ≤ w.heap.size) (hq : B ≤ q) : Below B w0 w' :=
  ⟨k.1.trans h.os, k.2.1.trans h.tape, k.2.2.1.trans h.output, Nat.le_trans h.size k.2.2.2.1, fun i hi => (k.2.2.2.2 i (by omega) (by omega)).trans (h.block i hi)⟩
theorem IsL.stored (h : IsL w B q a b c s t u la cu nx) (o : Nat) (v : Value) {la' cu' nx' : Int} (e : (lcs a b c la cu nx).setIfInBounds o v = lcs a b c la' cu' nx') : IsL (w.setCell ⟨q, o, none⟩ v) B q a b c s t u la' cu' nx' ∧ JustL q w (w.setCell ⟨q, o, none⟩ v) := by
  have hj := JustL.cell w q o v
  refine ⟨⟨?_, h.ms.kept (hj.2.2.2.2 a h.ms.blk h.aq), h.mt.kept (hj.2.2.2.2 b h.mt.blk h.bq), h.mu.kept (hj.2.2.2.2 c h.mu.blk h.cq), h.qB, h.aq, h.bq, h.cq⟩, hj⟩
  rw [setCell_eq_setRow w q o _ _ _ _ h.box, setRow_heap _ _ _ _ _ _ h.box, e]
set_option maxRecDepth 4000 in
set_option maxHeartbeats 800000 in
/-- What New answers. -/
def LnPost (g a b c : Nat) (s : Int → Bool) (t : P2 → Bool) (u : Int → Bool) (cur : Int) (w : World) (e : Ending) (w' : World) : Prop :=
  (s cur = true ∧ ∃ q, e = .returned (.tuple #[.pointer (some ⟨q, 0, none⟩), .int .i64 0]) ∧ IsL w' w.heap.size q a b c s t u 0 cur cur ∧ Below w.heap.size w w') ∨ (s cur = false ∧ e = .returned (.tuple #[.pointer none, .int .i64 10]) ∧ Below w.heap.size w w')
set_option maxRecDepth 4000 in
set_option maxHeartbeats 800000 in
theorem lnew_any {g : Nat} (h : IsR w B g a b c 1000 s t u) (cur : Int) (hc : I64 cur) :
    Calls Try.prog 15 #[.pointer (some ⟨g, 0, none⟩), .int .i64 cur] w (LnPost g a b c s t u cur w) := by
  have HS := Lib.hid (schedule_any h.at cur hc)
  have HR := Lib.hid h
  obtain ⟨r0, r1, r2⟩ := h.c
  obtain ⟨z, hz⟩ : ∃ z, s cur = z := ⟨_, rfl⟩
  rw [hz] at HS
  have HZ := Lib.hid hz
  clear h hz
  cases z with
  | false =>
    go_enter Try.func15, Try.ntmps15
    go_wp2_with (go_at_call 11; refine HS.out.mono ?_; rintro e w1 ⟨rfl, rfl⟩)
    go_ret2
    exact .inr ⟨HZ.out, rfl, Below.refl _ _⟩
  | true =>
    go_enter Try.func15, Try.ntmps15
    go_wp2_with (go_at_call 11; refine HS.out.mono ?_; rintro e w1 ⟨rfl, rfl⟩)
    go_ret2
    have hb : Below w.heap.size w (w.alloc (.cells (lcs a b c 0 cur cur) 75)) := (Below.refl _ _).alloc (Nat.le_refl _) _
    have hk := HR.out.keep hb
    refine .inl ⟨HZ.out, w.heap.size, rfl, ⟨heap_alloc_new w (.cells (lcs a b c 0 cur cur) 75), hk.ms, hk.mt, hk.mu, Nat.le_refl _, Nat.ne_of_lt HR.out.ms.blk, Nat.ne_of_lt HR.out.mt.blk, Nat.ne_of_lt HR.out.mu.blk⟩, hb⟩
set_option maxRecDepth 4000 in
set_option maxHeartbeats 800000 in
theorem lstatus_any (h : IsL w B q a b c s t u la cu nx) : Calls Try.prog 19 #[.pointer (some ⟨q, 0, none⟩)] w fun e w' => e = .returned (.agg #[.int .u64 la, .int .i64 cu, .int .i64 nx]) ∧ Below w.heap.size w w' := by
  have hb1 : Below w.heap.size w (w.alloc (.cells #[.int .u64 0, .int .i64 0, .int .i64 0] 50)) := (Below.refl _ _).alloc (Nat.le_refl _) _
  obtain ⟨-, -, -, c3, c4, c5⟩ := (h.keep hb1).cells
  have hb2 : Below w.heap.size w (w.alloc (.cells #[.int .u64 la, .int .i64 cu, .int .i64 nx] 50)) := (Below.refl _ _).alloc (Nat.le_refl _) _
  have hst : Sem.run Try.prog (storeVar 50 ⟨w.heap.size, 0, none⟩ (.agg #[.int .u64 la, .int .i64 cu, .int .i64 nx])) (w.alloc (.cells #[.int .u64 0, .int .i64 0, .int .i64 0] 50)) = .ok () (w.alloc (.cells #[.int .u64 la, .int .i64 cu, .int .i64 nx] 50)) := run_storeVar_new w _ _ _ (by kernel_rfl) rfl (by simp [Value.oneCell'])
  clear h hb1
  go_enter Try.func19, Try.ntmps19
  go_wp2
  refine bodyPost_ret (v := .agg #[.int .u64 la, .int .i64 cu, .int .i64 nx]) (results_cell_row (by rfl) _ _ w.heap.size 50 _ (0, 0) _ rfl (heap_alloc_new w _) Try.underlying50 rfl (by kernel_rfl)) rfl ⟨rfl, hb2⟩
set_option maxRecDepth 4000 in
set_option maxHeartbeats 800000 in
theorem lcopy_any (h : IsL w B q a b c s t u la cu nx) : Calls Try.prog 20 #[.pointer (some ⟨q, 0, none⟩)] w fun e w' => ∃ q', e = .returned (.pointer (some ⟨q', 0, none⟩)) ∧ IsL w' w.heap.size q' a b c s t u la cu nx ∧ Below w.heap.size w w' := by
  obtain ⟨c0, c1, c2, c3, c4, c5⟩ := h.cells
  have hst : Sem.run Try.prog (storeVar 75 ⟨w.heap.size, 0, none⟩ (.agg #[.map (some a), .map (some b), .map (some c), .int .u64 la, .int .i64 cu, .int .i64 nx])) (w.alloc (.cells #[.map none, .map none, .map none, .int .u64 0, .int .i64 0, .int .i64 0] 75)) = .ok () (w.alloc (.cells #[.map (some a), .map (some b), .map (some c), .int .u64 la, .int .i64 cu, .int .i64 nx] 75)) := run_storeVar_new w _ _ _ (by kernel_rfl) rfl (by simp [Value.oneCell'])
  have hb : Below w.heap.size w (w.alloc (.cells (lcs a b c la cu nx) 75)) := (Below.refl _ _).alloc (Nat.le_refl _) _
  have hk := h.keep hb
  have HQ : Hid (∃ q', (Value.pointer (some ⟨w.heap.size, 0, none⟩) : Value) = .pointer (some ⟨q', 0, none⟩) ∧ IsL (w.alloc (.cells (lcs a b c la cu nx) 75)) w.heap.size q' a b c s t u la cu nx) :=
    ⟨w.heap.size, rfl, heap_alloc_new w _, hk.ms, hk.mt, hk.mu, Nat.le_refl _, Nat.ne_of_lt h.ms.blk, Nat.ne_of_lt h.mt.blk, Nat.ne_of_lt h.mu.blk⟩
  clear h hk
  go_enter Try.func20, Try.ntmps20
  go_wp2
  go_ret
  obtain ⟨q', h1, h2⟩ := HQ.out
  exact ⟨q', congrArg Ending.returned h1, h2, hb⟩
set_option maxRecDepth 4000 in
theorem pending_any (l c n : Int) (w : World) : Calls Try.prog 23 #[.agg #[.int .u64 l, .int .i64 c, .int .i64 n]] w fun e w' => e = .returned (.bool (n != c)) ∧ Below w.heap.size w w' := by
  have hb : Below w.heap.size w (w.alloc (.cells #[.int .u64 l, .int .i64 c, .int .i64 n] 50)) := (Below.refl _ _).alloc (Nat.le_refl _) _
  obtain ⟨z, hz⟩ : ∃ z, (n != c) = z := ⟨_, rfl⟩
  rw [hz]
  go_enter Try.func23, Try.ntmps23
  go_wp2
  go_ret
  exact ⟨rfl, hb⟩
set_option maxRecDepth 4000 in
set_option maxHeartbeats 1600000 in
theorem lask_any (h : IsL w B q a b c s t u la cu nx) (caller id : Int) (h1 : I64 caller) (h2 : I64 cu) (h3 : I64 id) :
    Calls Try.prog 16 #[.pointer (some ⟨q, 0, none⟩), .int .i64 caller, .int .i64 id] w fun e w' => e = .returned (.int .i64 (codeR s t u caller cu id)) ∧ IsL w' B q a b c s t u la cu (if codeR s t u caller cu id = 0 then id else nx) ∧ JustL q w w' := by
  have hd : Below w.heap.size w w.drew := ⟨rfl, rfl, rfl, Nat.le_refl _, fun _ _ => rfl⟩
  have HL := Lib.hid h
  have HCO := Lib.hid (code_any (h.keep hd).rat caller cu id h1 h2 h3)
  obtain ⟨-, -, -, -, c4, -⟩ := (h.keep hd).cells
  obtain ⟨k, hk⟩ : ∃ k, codeR s t u caller cu id = k := ⟨_, rfl⟩
  rw [hk] at HCO ⊢
  obtain ⟨n2, hn2⟩ : ∃ x, (if k = 0 then id else nx) = x := ⟨_, rfl⟩
  rw [hn2]
  have HN2 := Lib.hid hn2
  have HD := Lib.hid hd
  clear h hk hd hn2
  go_enter Try.func16, Try.ntmps16
  go_upto_region 1 with fail
  go_region_held3 (fun wx => wx.cell? ⟨q, 4, none⟩ = some (.int .i64 cu))
    (first | exact HK1.out | assumption | (go_keep; done))
    (first
      | (go_at_call 9; refine HCO.out.mono ?_; rintro e W1 ⟨rfl, hb1⟩; have HB1 := Lib.hid (HD.out.trans (hb1.mono HD.out.size)); have HK1 := Lib.hid ((HL.out.keep HB1.out).cells.2.2.2.2.1); clear hb1))
  all_goals
    have HL1 := Lib.hid (HL.out.keep HB1.out)
    by_cases hk : k = 0
    · have t0 : (k == 0) = true := by simp [hk]
      obtain ⟨-, -, -, -, -, d5⟩ := HL1.out.cells
      have f5 := HL1.out.free 5
      have HST := Lib.hid (HL1.out.stored 5 (.int .i64 id) (la' := la) (cu' := cu) (nx' := id) rfl)
      have HE : Hid (n2 = id) := HN2.out.symm.trans (if_pos hk)
      clear hk
      go_wp2
      go_ret
      exact ⟨rfl, by rw [HE.out]; exact HST.out.1, (JustL.of q HB1.out).trans HST.out.2⟩
    · have t0 : (k == 0) = false := by simp [hk]
      have HE : Hid (n2 = nx) := HN2.out.symm.trans (if_neg hk)
      clear hk
      go_wp2
      go_ret
      exact ⟨rfl, by rw [HE.out]; exact HL1.out, JustL.of q HB1.out⟩
set_option maxRecDepth 4000 in
set_option maxHeartbeats 1600000 in
theorem lbound_any (h : IsL w B q a b c s t u la cu nx) (now : Int) :
    Calls Try.prog 17 #[.pointer (some ⟨q, 0, none⟩), .int .u64 now] w fun e w' => e = .returned (.bool (nx != cu)) ∧ IsL w' B q a b c s t u (if nx != cu then now else la) (if nx != cu then nx else cu) nx ∧ JustL q w w' := by
  have HL := Lib.hid h
  obtain ⟨-, -, -, c3, c4, c5⟩ := h.cells
  have HPE := Lib.hid (pending_any la cu nx w)
  obtain ⟨z, hz⟩ : ∃ z, (nx != cu) = z := ⟨_, rfl⟩
  rw [hz] at HPE ⊢
  clear h hz
  go_enter Try.func17, Try.ntmps17
  cases z with
  | false =>
    go_wp2_with (go_at_call 23; refine HPE.out.mono ?_; rintro e W1 ⟨rfl, hb1⟩; have HB1 := Lib.hid hb1; clear hb1)
    go_ret
    exact ⟨rfl, HL.out.keep HB1.out, JustL.of q HB1.out⟩
  | true =>
    go_wp2_with fail
    refine HPE.out.mono ?_
    rintro e W1 ⟨rfl, hb1⟩
    have HB1 := Lib.hid hb1
    have HL1 := Lib.hid (HL.out.keep hb1)
    obtain ⟨-, -, -, d3, d4, d5⟩ := HL1.out.cells
    have f3 := HL1.out.free 3
    have HS1 := Lib.hid (HL1.out.stored 3 (.int .u64 now) (la' := now) (cu' := cu) (nx' := nx) rfl)
    have f4 := HS1.out.1.free 4
    have d4' := HS1.out.1.cells.2.2.2.2.1
    have HS2 := Lib.hid (HS1.out.1.stored 4 (.int .i64 nx) (la' := now) (cu' := nx) (nx' := nx) rfl)
    clear hb1 c3 c4 c5 HPE
    go_wp2
    go_ret
    exact ⟨rfl, HS2.out.1, ((JustL.of q HB1.out).trans HS1.out.2).trans HS2.out.2⟩
end

end Go.Proofs.Ytbfhcphjeiojmaa.Lat
