
/- What asking answers (Rules.Code), by rules at any place. Condition: at most a thousand entries. -/

import Derived.Test.YtbfhcphjeiojmaaLatD

import Derived.LoopN

import Derived.Deep.WholeRow

namespace Go.Proofs.Ytbfhcphjeiojmaa.Lat

open Go.RowKit Go.PlainAid Go.Proofs.Ytbfhcphjeiojmaa.Args Go.Proofs.Ytbfhcphjeiojmaa.Cel Go.Proofs.Ytbfhcphjeiojmaa.Mpv

set_option linter.unusedVariables false

set_option linter.unusedSimpArgs false

/-- Rules that stand in the first three cells of block g. -/
structure RAt (w : World) (g a b c : Nat) (s : Int → Bool) (t : P2 → Bool) (u : Int → Bool) : Prop where
  c0 : w.cell? ⟨g, 0, none⟩ = some (.map (some a))
  c1 : w.cell? ⟨g, 1, none⟩ = some (.map (some b))
  c2 : w.cell? ⟨g, 2, none⟩ = some (.map (some c))
  ms : BMap w a s 1000
  mt : PMap w b t 1000
  mu : BMap w c u 1000
theorem RAt.keep {w w' : World} {g a b c : Nat} {s : Int → Bool} {t : P2 → Bool} {u : Int → Bool} (h : RAt w g a b c s t u) (e : Below w.heap.size w w') : RAt w' g a b c s t u :=
  ⟨(e.cell (Go.block_lt_of_cell h.c0)).trans h.c0, (e.cell (Go.block_lt_of_cell h.c1)).trans h.c1, (e.cell (Go.block_lt_of_cell h.c2)).trans h.c2, h.ms.keep e, h.mt.keep e, h.mu.keep e⟩
theorem IsR.at {w : World} {B g a b c : Nat} {s : Int → Bool} {t : P2 → Bool} {u : Int → Bool} (h : IsR w B g a b c 1000 s t u) : RAt w g a b c s t u := ⟨h.c.1, h.c.2.1, h.c.2.2, h.ms, h.mt, h.mu⟩
def codeR (s : Int → Bool) (t : P2 → Bool) (u : Int → Bool) (caller current id : Int) : Int :=
  if s id = false then 3 else if u caller = false then 4 else if id = current then 1 else if t ⟨current, id⟩ = false then 5 else 0
section

variable {w : World} {g a b c : Nat} {s : Int → Bool} {t : P2 → Bool} {u : Int → Bool}

set_option maxRecDepth 4000 in
theorem schedule_any (h : RAt w g a b c s t u) (id : Int) (hi : I64 id) : Calls Try.prog 11 #[.pointer (some ⟨g, 0, none⟩), .int .i64 id] w fun e w' => e = .returned (.bool (s id)) ∧ w = w' := by
  have hl := h.ms.look id hi
  have c0 := h.c0
  clear h
  go_enter Try.func11, Try.ntmps11
  go_wp2
  go_ret
  exact ⟨rfl, rfl⟩
set_option maxRecDepth 4000 in
theorem may_any (h : RAt w g a b c s t u) (id : Int) (hi : I64 id) : Calls Try.prog 14 #[.pointer (some ⟨g, 0, none⟩), .int .i64 id] w fun e w' => e = .returned (.bool (u id)) ∧ w = w' := by
  have hl := h.mu.look id hi
  have c2 := h.c2
  clear h
  go_enter Try.func14, Try.ntmps14
  go_wp2
  go_ret
  exact ⟨rfl, rfl⟩
def ptr (g : Nat) : Value := .pointer (some ⟨g, 0, none⟩)
set_option maxRecDepth 4000 in
theorem no1_any (h : RAt w g a b c s t u) (id : Int) (hi : I64 id) {b0 b3 : Nat} (h0 : w.cell? ⟨b0, 0, none⟩ = some (.pointer (some ⟨g, 0, none⟩))) (h3 : w.cell? ⟨b3, 0, none⟩ = some (.int .i64 id)) :
    Calls Try.prog 24 #[.pointer (some ⟨b0, 0, none⟩), .pointer (some ⟨b3, 0, none⟩)] w fun e w' => e = .returned (.bool (!s id)) ∧ w = w' := by
  have HS := Lib.hid (schedule_any h id hi)
  clear h
  obtain ⟨z, hz⟩ : ∃ z, s id = z := ⟨_, rfl⟩
  rw [hz] at HS ⊢
  clear hz
  go_enter Try.func24, Try.ntmps24
  go_wp2_with (go_at_call 11; refine HS.out.mono ?_; rintro e w' ⟨rfl, rfl⟩)
  go_ret
  exact ⟨rfl, rfl⟩
set_option maxRecDepth 4000 in
theorem no2_any (h : RAt w g a b c s t u) (id : Int) (hi : I64 id) {b0 b3 : Nat} (h0 : w.cell? ⟨b0, 0, none⟩ = some (.pointer (some ⟨g, 0, none⟩))) (h3 : w.cell? ⟨b3, 0, none⟩ = some (.int .i64 id)) :
    Calls Try.prog 25 #[.pointer (some ⟨b0, 0, none⟩), .pointer (some ⟨b3, 0, none⟩)] w fun e w' => e = .returned (.bool (!u id)) ∧ w = w' := by
  have HS := Lib.hid (may_any h id hi)
  clear h
  obtain ⟨z, hz⟩ : ∃ z, u id = z := ⟨_, rfl⟩
  rw [hz] at HS ⊢
  clear hz
  go_enter Try.func25, Try.ntmps25
  go_wp2_with (go_at_call 14; refine HS.out.mono ?_; rintro e w' ⟨rfl, rfl⟩)
  go_ret
  exact ⟨rfl, rfl⟩
set_option maxRecDepth 4000 in
theorem no3_any (id cur : Int) {b2 b3 : Nat} (h3 : w.cell? ⟨b3, 0, none⟩ = some (.int .i64 id)) (h2 : w.cell? ⟨b2, 0, none⟩ = some (.int .i64 cur)) :
    Calls Try.prog 26 #[.pointer (some ⟨b3, 0, none⟩), .pointer (some ⟨b2, 0, none⟩)] w fun e w' => e = .returned (.bool (id == cur)) ∧ w = w' := by
  go_enter Try.func26, Try.ntmps26
  go_wp2
  go_ret
  exact ⟨rfl, rfl⟩
set_option maxRecDepth 4000 in
set_option maxHeartbeats 800000 in
theorem no4_any (h : RAt w g a b c s t u) (id cur : Int) (hi : I64 id) (hc : I64 cur) {b0 b2 b3 : Nat} (h0 : w.cell? ⟨b0, 0, none⟩ = some (.pointer (some ⟨g, 0, none⟩))) (h2 : w.cell? ⟨b2, 0, none⟩ = some (.int .i64 cur)) (h3 : w.cell? ⟨b3, 0, none⟩ = some (.int .i64 id)) :
    Calls Try.prog 27 #[.pointer (some ⟨b0, 0, none⟩), .pointer (some ⟨b2, 0, none⟩), .pointer (some ⟨b3, 0, none⟩)] w fun e w' => e = .returned (.bool (!t ⟨cur, id⟩)) ∧ Below w.heap.size w w' := by
  have hd : Below w.heap.size w w.drew := ⟨rfl, rfl, rfl, Nat.le_refl _, fun _ _ => rfl⟩
  have hl := (h.keep hd).mt.look ⟨cur, id⟩ ⟨hc, hi⟩
  have c1 := (h.keep hd).c1
  dsimp only at hl
  have d0 : w.drew.cell? ⟨b0, 0, none⟩ = some (.pointer (some ⟨g, 0, none⟩)) := h0
  have d2 : w.drew.cell? ⟨b2, 0, none⟩ = some (.int .i64 cur) := h2
  have d3 : w.drew.cell? ⟨b3, 0, none⟩ = some (.int .i64 id) := h3
  obtain ⟨z, hz⟩ : ∃ z, t ⟨cur, id⟩ = z := ⟨_, rfl⟩
  rw [hz] at hl ⊢
  clear h hz h0 h2 h3
  go_enter Try.func27, Try.ntmps27
  go_upto_region 1 with fail
  go_region_held3 (fun wx => wx.cell? ⟨b0, 0, none⟩ = some (.pointer (some ⟨g, 0, none⟩)) ∧ wx.cell? ⟨b2, 0, none⟩ = some (.int .i64 cur) ∧ wx.cell? ⟨b3, 0, none⟩ = some (.int .i64 id) ∧ wx.cell? ⟨g, 1, none⟩ = some (.map (some b)))
    (first | assumption | (go_keep; done))
    (fail)
  all_goals
    go_wp2
    go_ret
    exact ⟨rfl, hd⟩
theorem st_ref (w : World) (f : FuncId) (cap : Array Value) (k : Int) : Sem.run Try.prog (storeVar 73 ⟨w.heap.size, 0, none⟩ (.agg #[.func (.func f) #[] cap, .int .i64 k])) (w.alloc (.cells #[.nilFunc, .int .i64 0] 73)) = .ok () (w.alloc (.cells #[.func (.func f) #[] cap, .int .i64 k] 73)) :=
  run_storeVar_new w _ _ _ (by kernel_rfl) rfl (by simp [Value.oneCell'])
theorem five (w : World) (o0 o1 o2 o3 o4 : Obj) : (((((w.alloc o0).alloc o1).alloc o2).alloc o3).alloc o4).heap[w.heap.size]? = some o0 ∧ (((((w.alloc o0).alloc o1).alloc o2).alloc o3).alloc o4).heap[w.heap.size + 1]? = some o1 ∧ (((((w.alloc o0).alloc o1).alloc o2).alloc o3).alloc o4).heap[w.heap.size + 1 + 1]? = some o2 ∧ (((((w.alloc o0).alloc o1).alloc o2).alloc o3).alloc o4).heap[w.heap.size + 1 + 1 + 1]? = some o3 ∧ (((((w.alloc o0).alloc o1).alloc o2).alloc o3).alloc o4).heap[w.heap.size + 1 + 1 + 1 + 1]? = some o4 ∧ Below w.heap.size w (((((w.alloc o0).alloc o1).alloc o2).alloc o3).alloc o4) := by
  obtain ⟨W1, h1⟩ : ∃ W, w.alloc o0 = W := ⟨_, rfl⟩
  obtain ⟨W2, h2⟩ : ∃ W, W1.alloc o1 = W := ⟨_, rfl⟩
  obtain ⟨W3, h3⟩ : ∃ W, W2.alloc o2 = W := ⟨_, rfl⟩
  obtain ⟨W4, h4⟩ : ∃ W, W3.alloc o3 = W := ⟨_, rfl⟩
  have s1 : W1.heap.size = w.heap.size + 1 := by rw [← h1]; simp
  have s2 : W2.heap.size = w.heap.size + 1 + 1 := by rw [← h2, ← s1]; simp
  have s3 : W3.heap.size = w.heap.size + 1 + 1 + 1 := by rw [← h3, ← s2]; simp
  have s4 : W4.heap.size = w.heap.size + 1 + 1 + 1 + 1 := by rw [← h4, ← s3]; simp
  rw [h1, h2, h3, h4]
  have n0 := heap_alloc_new w o0
  have n1 := heap_alloc_new W1 o1
  have n2 := heap_alloc_new W2 o2
  have n3 := heap_alloc_new W3 o3
  have n4 := heap_alloc_new W4 o4
  rw [h1] at n0
  rw [h2, s1] at n1
  rw [h3, s2] at n2
  rw [h4, s3] at n3
  rw [s4] at n4
  have b1 : Below w.heap.size w W1 := by rw [← h1]; exact (Below.refl _ _).alloc (Nat.le_refl _) _
  have b2 : Below W1.heap.size W1 W2 := by rw [← h2]; exact (Below.refl _ _).alloc (Nat.le_refl _) _
  have b3 : Below W2.heap.size W2 W3 := by rw [← h3]; exact (Below.refl _ _).alloc (Nat.le_refl _) _
  have b4 : Below W3.heap.size W3 W4 := by rw [← h4]; exact (Below.refl _ _).alloc (Nat.le_refl _) _
  have b5 : Below W4.heap.size W4 (W4.alloc o4) := (Below.refl _ _).alloc (Nat.le_refl _) _
  have l := fun {k : Nat} {o : Obj} {W : World} (h : W.heap[k]? = some o) => lt_of_block h
  have t3 := (b5.block _ (lt_of_block n3)).trans n3
  have t2' := (b4.block _ (lt_of_block n2)).trans n2
  have t2 := (b5.block _ (lt_of_block t2')).trans t2'
  have t1'' := (b3.block _ (lt_of_block n1)).trans n1
  have t1' := (b4.block _ (lt_of_block t1'')).trans t1''
  have t1 := (b5.block _ (lt_of_block t1')).trans t1'
  have t0a := (b2.block _ (lt_of_block n0)).trans n0
  have t0b := (b3.block _ (lt_of_block t0a)).trans t0a
  have t0c := (b4.block _ (lt_of_block t0b)).trans t0b
  have t0 := (b5.block _ (lt_of_block t0c)).trans t0c
  refine ⟨t0, t1, t2, t3, n4, ?_⟩
  exact ((((b1.trans (b2.mono (by omega))).trans (b3.mono (by omega))).trans (b4.mono (by omega))).trans (b5.mono (by omega)))
def RfPost (g : Nat) (caller current id : Int) (w : World) (e : Ending) (w' : World) : Prop :=
  ∃ b0 b1 b2 b3 R, e = .returned (.slice (some ⟨R, 0, none⟩) 4 4) ∧ w'.heap[R]? = some (.cells #[.func (.func 24) #[] #[.pointer (some ⟨b0, 0, none⟩), .pointer (some ⟨b3, 0, none⟩)], .int .i64 3, .func (.func 25) #[] #[.pointer (some ⟨b0, 0, none⟩), .pointer (some ⟨b1, 0, none⟩)], .int .i64 4, .func (.func 26) #[] #[.pointer (some ⟨b3, 0, none⟩), .pointer (some ⟨b2, 0, none⟩)], .int .i64 1, .func (.func 27) #[] #[.pointer (some ⟨b0, 0, none⟩), .pointer (some ⟨b2, 0, none⟩), .pointer (some ⟨b3, 0, none⟩)], .int .i64 5] 73 (0, 0)) ∧
    w'.cell? ⟨b0, 0, none⟩ = some (.pointer (some ⟨g, 0, none⟩)) ∧ w'.cell? ⟨b1, 0, none⟩ = some (.int .i64 caller) ∧ w'.cell? ⟨b2, 0, none⟩ = some (.int .i64 current) ∧ w'.cell? ⟨b3, 0, none⟩ = some (.int .i64 id) ∧ Below w.heap.size w w'
set_option maxRecDepth 4000 in
set_option maxHeartbeats 800000 in
theorem refusals_any (w : World) (g : Nat) (caller current id : Int) :
    Calls Try.prog 22 #[.pointer (some ⟨g, 0, none⟩), .int .i64 caller, .int .i64 current, .int .i64 id] w (RfPost g caller current id w) := by
  go_enter Try.func22, Try.ntmps22
  go_wp2
  go_ret
  obtain ⟨h0, h1, h2, h3, h4, hb⟩ := five w (.cells #[.pointer (some ⟨g, 0, none⟩)] 31) (.cells #[.int .i64 caller] 3) (.cells #[.int .i64 current] 3) (.cells #[.int .i64 id] 3) (.cells #[.func (.func 24) #[] #[.pointer (some ⟨w.heap.size, 0, none⟩), .pointer (some ⟨w.heap.size + 1 + 1 + 1, 0, none⟩)], .int .i64 3, .func (.func 25) #[] #[.pointer (some ⟨w.heap.size, 0, none⟩), .pointer (some ⟨w.heap.size + 1, 0, none⟩)], .int .i64 4, .func (.func 26) #[] #[.pointer (some ⟨w.heap.size + 1 + 1 + 1, 0, none⟩), .pointer (some ⟨w.heap.size + 1 + 1, 0, none⟩)], .int .i64 1, .func (.func 27) #[] #[.pointer (some ⟨w.heap.size, 0, none⟩), .pointer (some ⟨w.heap.size + 1 + 1, 0, none⟩), .pointer (some ⟨w.heap.size + 1 + 1 + 1, 0, none⟩)], .int .i64 5] 73)
  exact ⟨w.heap.size, w.heap.size + 1, w.heap.size + 1 + 1, w.heap.size + 1 + 1 + 1, w.heap.size + 1 + 1 + 1 + 1, rfl, h4, by rw [cell_of_row _ _ _ _ _ _ h0]; rfl, by rw [cell_of_row _ _ _ _ _ _ h1]; rfl, by rw [cell_of_row _ _ _ _ _ _ h2]; rfl, by rw [cell_of_row _ _ _ _ _ _ h3]; rfl, hb⟩
attribute [-go_sem] storeVar
set_option maxRecDepth 8000 in
set_option maxHeartbeats 3200000 in
theorem code_any (h : RAt w g a b c s t u) (caller current id : Int) (h1 : I64 caller) (h2 : I64 current) (h3 : I64 id) :
    Calls Try.prog 9 #[.pointer (some ⟨g, 0, none⟩), .int .i64 caller, .int .i64 current, .int .i64 id] w fun e w' => e = .returned (.int .i64 (codeR s t u caller current id)) ∧ Below w.heap.size w w' := by
  have HR := Lib.hid h
  have HI1 := Lib.hid h1
  have HI2 := Lib.hid h2
  have HI3 := Lib.hid h3
  have HRF := Lib.hid (refusals_any w g caller current id)
  obtain ⟨v, hv⟩ : ∃ v, codeR s t u caller current id = v := ⟨_, rfl⟩
  rw [hv]
  have HV := Lib.hid hv
  clear h h1 h2 h3 hv
  go_enter Try.func9, Try.ntmps9
  go_wp2_with fail
  refine HRF.out.mono ?_
  rintro e w2 ⟨b0, b1, b2, b3, R, rfl, hr, hc0, hc1, hc2, hc3, hb⟩
  have HRO := Lib.hid hr
  have HB := Lib.hid hb
  have HCE : Hid (∀ W, Below w2.heap.size w2 W → W.cell? ⟨b0, 0, none⟩ = some (.pointer (some ⟨g, 0, none⟩)) ∧ W.cell? ⟨b1, 0, none⟩ = some (.int .i64 caller) ∧ W.cell? ⟨b2, 0, none⟩ = some (.int .i64 current) ∧ W.cell? ⟨b3, 0, none⟩ = some (.int .i64 id)) := fun W e =>
    ⟨(e.cell (Go.block_lt_of_cell hc0)).trans hc0, (e.cell (Go.block_lt_of_cell hc1)).trans hc1, (e.cell (Go.block_lt_of_cell hc2)).trans hc2, (e.cell (Go.block_lt_of_cell hc3)).trans hc3⟩
  have HRR : Hid (∀ W, Below w2.heap.size w2 W → RAt W g a b c s t u) := fun W e => HR.out.keep (hb.trans (e.mono hb.size))
  have hrow : ∀ W, Below w2.heap.size w2 W → ∀ j, W.cell? ⟨R, j, none⟩ = _ := fun W e j => cell_of_row W _ j _ _ _ ((e.block _ (lt_of_block hr)).trans hr)
  have HROW := Lib.hid hrow
  clear hr hc0 hc1 hc2 hc3 hb hrow HRF
  have hcase : (s id = false) ∨ (s id = true ∧ u caller = false) ∨ (s id = true ∧ u caller = true ∧ (id == current) = true) ∨ (s id = true ∧ u caller = true ∧ (id == current) = false ∧ t ⟨current, id⟩ = false) ∨ (s id = true ∧ u caller = true ∧ (id == current) = false ∧ t ⟨current, id⟩ = true) := by
    cases s id <;> cases u caller <;> cases (id == current) <;> cases t ⟨current, id⟩ <;> simp
  have HV2 : Hid (codeR s t u caller current id = v) := HV.out
  unfold codeR at HV2
  rcases hcase with hs | ⟨hs, hu⟩ | ⟨hs, hu, he⟩ | ⟨hs, hu, he, ht⟩ | ⟨hs, hu, he, ht⟩
  · have HVV : Hid (v = 3) := by
      show _ = _
      rw [← HV2.out]
      rw [if_pos hs]
    go_wp2_with fail
    refine wp_loop_rounds 1 ?_
    rw [rounds_succ]
    have hq1a := HROW.out w2 (Below.refl _ _) 0
    have hq1b := HROW.out w2 (Below.refl _ _) 1
    simp only [List.getElem?_toArray, List.getElem?_cons_zero, List.getElem?_cons_succ] at hq1a hq1b
    have hst1 := st_ref w2 24 #[.pointer (some ⟨b0, 0, none⟩), .pointer (some ⟨b3, 0, none⟩)] 3
    have hba1 : Below w2.heap.size w2 (w2.alloc (.cells #[.func (.func 24) #[] #[.pointer (some ⟨b0, 0, none⟩), .pointer (some ⟨b3, 0, none⟩)], .int .i64 3] 73)) := (Below.refl _ _).alloc (Nat.le_refl _) _
    have HBX1 : Hid (Below w2.heap.size w2 (w2.alloc (.cells #[.func (.func 24) #[] #[.pointer (some ⟨b0, 0, none⟩), .pointer (some ⟨b3, 0, none⟩)], .int .i64 3] 73))) := hba1
    have hbx := HBX1.out
    have HC1 := Lib.hid (no1_any (HRR.out _ hbx) id HI3.out (HCE.out _ hbx).1 (HCE.out _ hbx).2.2.2)
    have hx1 := heap_alloc_new w2 (.cells #[.func (.func 24) #[] #[.pointer (some ⟨b0, 0, none⟩), .pointer (some ⟨b3, 0, none⟩)], .int .i64 3] 73)
    rw [hs] at HC1
    clear hba1 hbx
    go_wp2_with (go_at_call 24; refine HC1.out.mono ?_; rintro e wc1 ⟨rfl, hw1⟩; have HBC1 := HBX1; rw [hw1] at HBC1; clear hq1a hq1b hst1; rw [hw1] at hx1; have hy1 := cell_of_row _ _ 1 _ _ _ hx1; simp only [List.getElem?_toArray, List.getElem?_cons_zero, List.getElem?_cons_succ] at hy1; clear hx1 hw1)
    go_ret
    exact ⟨by rw [HVV.out]; rfl, HB.out.trans (HBC1.out.mono HB.out.size)⟩
  · have HVV : Hid (v = 4) := by
      show _ = _
      rw [← HV2.out]
      rw [if_neg (by rw [hs]; decide), if_pos hu]
    go_wp2_with fail
    refine wp_loop_rounds 2 ?_
    rw [rounds_succ]
    have hq1a := HROW.out w2 (Below.refl _ _) 0
    have hq1b := HROW.out w2 (Below.refl _ _) 1
    simp only [List.getElem?_toArray, List.getElem?_cons_zero, List.getElem?_cons_succ] at hq1a hq1b
    have hst1 := st_ref w2 24 #[.pointer (some ⟨b0, 0, none⟩), .pointer (some ⟨b3, 0, none⟩)] 3
    have hba1 : Below w2.heap.size w2 (w2.alloc (.cells #[.func (.func 24) #[] #[.pointer (some ⟨b0, 0, none⟩), .pointer (some ⟨b3, 0, none⟩)], .int .i64 3] 73)) := (Below.refl _ _).alloc (Nat.le_refl _) _
    have HBX1 : Hid (Below w2.heap.size w2 (w2.alloc (.cells #[.func (.func 24) #[] #[.pointer (some ⟨b0, 0, none⟩), .pointer (some ⟨b3, 0, none⟩)], .int .i64 3] 73))) := hba1
    have hbx := HBX1.out
    have HC1 := Lib.hid (no1_any (HRR.out _ hbx) id HI3.out (HCE.out _ hbx).1 (HCE.out _ hbx).2.2.2)
    have hx1 := heap_alloc_new w2 (.cells #[.func (.func 24) #[] #[.pointer (some ⟨b0, 0, none⟩), .pointer (some ⟨b3, 0, none⟩)], .int .i64 3] 73)
    rw [hs] at HC1
    clear hba1 hbx
    go_wp2_with (go_at_call 24; refine HC1.out.mono ?_; rintro e wc1 ⟨rfl, hw1⟩; have HBC1 := HBX1; rw [hw1] at HBC1; clear hq1a hq1b hst1; rw [hw1] at hx1; have hy1 := cell_of_row _ _ 1 _ _ _ hx1; simp only [List.getElem?_toArray, List.getElem?_cons_zero, List.getElem?_cons_succ] at hy1; clear hx1 hw1)
    rw [rounds_succ]
    have hq2a := HROW.out wc1 (HBC1.out) 2
    have hq2b := HROW.out wc1 (HBC1.out) 3
    simp only [List.getElem?_toArray, List.getElem?_cons_zero, List.getElem?_cons_succ] at hq2a hq2b
    have hst2 := st_ref wc1 25 #[.pointer (some ⟨b0, 0, none⟩), .pointer (some ⟨b1, 0, none⟩)] 4
    have hba2 : Below wc1.heap.size wc1 (wc1.alloc (.cells #[.func (.func 25) #[] #[.pointer (some ⟨b0, 0, none⟩), .pointer (some ⟨b1, 0, none⟩)], .int .i64 4] 73)) := (Below.refl _ _).alloc (Nat.le_refl _) _
    have HBX2 : Hid (Below w2.heap.size w2 (wc1.alloc (.cells #[.func (.func 25) #[] #[.pointer (some ⟨b0, 0, none⟩), .pointer (some ⟨b1, 0, none⟩)], .int .i64 4] 73))) := HBC1.out.trans (hba2.mono HBC1.out.size)
    have hbx := HBX2.out
    have HC2 := Lib.hid (no2_any (HRR.out _ hbx) caller HI1.out (HCE.out _ hbx).1 (HCE.out _ hbx).2.1)
    have hx2 := heap_alloc_new wc1 (.cells #[.func (.func 25) #[] #[.pointer (some ⟨b0, 0, none⟩), .pointer (some ⟨b1, 0, none⟩)], .int .i64 4] 73)
    rw [hu] at HC2
    clear hba2 hbx
    go_wp2_with (go_at_call 25; refine HC2.out.mono ?_; rintro e wc2 ⟨rfl, hw2⟩; have HBC2 := HBX2; rw [hw2] at HBC2; clear hq2a hq2b hst2; rw [hw2] at hx2; have hy2 := cell_of_row _ _ 1 _ _ _ hx2; simp only [List.getElem?_toArray, List.getElem?_cons_zero, List.getElem?_cons_succ] at hy2; clear hx2 hw2)
    go_ret
    exact ⟨by rw [HVV.out]; rfl, HB.out.trans (HBC2.out.mono HB.out.size)⟩
  · have HVV : Hid (v = 1) := by
      show _ = _
      rw [← HV2.out]
      rw [if_neg (by rw [hs]; decide), if_neg (by rw [hu]; decide), if_pos (by simpa using he)]
    go_wp2_with fail
    refine wp_loop_rounds 3 ?_
    rw [rounds_succ]
    have hq1a := HROW.out w2 (Below.refl _ _) 0
    have hq1b := HROW.out w2 (Below.refl _ _) 1
    simp only [List.getElem?_toArray, List.getElem?_cons_zero, List.getElem?_cons_succ] at hq1a hq1b
    have hst1 := st_ref w2 24 #[.pointer (some ⟨b0, 0, none⟩), .pointer (some ⟨b3, 0, none⟩)] 3
    have hba1 : Below w2.heap.size w2 (w2.alloc (.cells #[.func (.func 24) #[] #[.pointer (some ⟨b0, 0, none⟩), .pointer (some ⟨b3, 0, none⟩)], .int .i64 3] 73)) := (Below.refl _ _).alloc (Nat.le_refl _) _
    have HBX1 : Hid (Below w2.heap.size w2 (w2.alloc (.cells #[.func (.func 24) #[] #[.pointer (some ⟨b0, 0, none⟩), .pointer (some ⟨b3, 0, none⟩)], .int .i64 3] 73))) := hba1
    have hbx := HBX1.out
    have HC1 := Lib.hid (no1_any (HRR.out _ hbx) id HI3.out (HCE.out _ hbx).1 (HCE.out _ hbx).2.2.2)
    have hx1 := heap_alloc_new w2 (.cells #[.func (.func 24) #[] #[.pointer (some ⟨b0, 0, none⟩), .pointer (some ⟨b3, 0, none⟩)], .int .i64 3] 73)
    rw [hs] at HC1
    clear hba1 hbx
    go_wp2_with (go_at_call 24; refine HC1.out.mono ?_; rintro e wc1 ⟨rfl, hw1⟩; have HBC1 := HBX1; rw [hw1] at HBC1; clear hq1a hq1b hst1; rw [hw1] at hx1; have hy1 := cell_of_row _ _ 1 _ _ _ hx1; simp only [List.getElem?_toArray, List.getElem?_cons_zero, List.getElem?_cons_succ] at hy1; clear hx1 hw1)
    rw [rounds_succ]
    have hq2a := HROW.out wc1 (HBC1.out) 2
    have hq2b := HROW.out wc1 (HBC1.out) 3
    simp only [List.getElem?_toArray, List.getElem?_cons_zero, List.getElem?_cons_succ] at hq2a hq2b
    have hst2 := st_ref wc1 25 #[.pointer (some ⟨b0, 0, none⟩), .pointer (some ⟨b1, 0, none⟩)] 4
    have hba2 : Below wc1.heap.size wc1 (wc1.alloc (.cells #[.func (.func 25) #[] #[.pointer (some ⟨b0, 0, none⟩), .pointer (some ⟨b1, 0, none⟩)], .int .i64 4] 73)) := (Below.refl _ _).alloc (Nat.le_refl _) _
    have HBX2 : Hid (Below w2.heap.size w2 (wc1.alloc (.cells #[.func (.func 25) #[] #[.pointer (some ⟨b0, 0, none⟩), .pointer (some ⟨b1, 0, none⟩)], .int .i64 4] 73))) := HBC1.out.trans (hba2.mono HBC1.out.size)
    have hbx := HBX2.out
    have HC2 := Lib.hid (no2_any (HRR.out _ hbx) caller HI1.out (HCE.out _ hbx).1 (HCE.out _ hbx).2.1)
    have hx2 := heap_alloc_new wc1 (.cells #[.func (.func 25) #[] #[.pointer (some ⟨b0, 0, none⟩), .pointer (some ⟨b1, 0, none⟩)], .int .i64 4] 73)
    rw [hu] at HC2
    clear hba2 hbx
    go_wp2_with (go_at_call 25; refine HC2.out.mono ?_; rintro e wc2 ⟨rfl, hw2⟩; have HBC2 := HBX2; rw [hw2] at HBC2; clear hq2a hq2b hst2; rw [hw2] at hx2; have hy2 := cell_of_row _ _ 1 _ _ _ hx2; simp only [List.getElem?_toArray, List.getElem?_cons_zero, List.getElem?_cons_succ] at hy2; clear hx2 hw2)
    rw [rounds_succ]
    have hq3a := HROW.out wc2 (HBC2.out) 4
    have hq3b := HROW.out wc2 (HBC2.out) 5
    simp only [List.getElem?_toArray, List.getElem?_cons_zero, List.getElem?_cons_succ] at hq3a hq3b
    have hst3 := st_ref wc2 26 #[.pointer (some ⟨b3, 0, none⟩), .pointer (some ⟨b2, 0, none⟩)] 1
    have hba3 : Below wc2.heap.size wc2 (wc2.alloc (.cells #[.func (.func 26) #[] #[.pointer (some ⟨b3, 0, none⟩), .pointer (some ⟨b2, 0, none⟩)], .int .i64 1] 73)) := (Below.refl _ _).alloc (Nat.le_refl _) _
    have HBX3 : Hid (Below w2.heap.size w2 (wc2.alloc (.cells #[.func (.func 26) #[] #[.pointer (some ⟨b3, 0, none⟩), .pointer (some ⟨b2, 0, none⟩)], .int .i64 1] 73))) := HBC2.out.trans (hba3.mono HBC2.out.size)
    have hbx := HBX3.out
    have HC3 := Lib.hid (no3_any id current (HCE.out _ hbx).2.2.2 (HCE.out _ hbx).2.2.1)
    have hx3 := heap_alloc_new wc2 (.cells #[.func (.func 26) #[] #[.pointer (some ⟨b3, 0, none⟩), .pointer (some ⟨b2, 0, none⟩)], .int .i64 1] 73)
    rw [he] at HC3
    clear hba3 hbx
    go_wp2_with (go_at_call 26; refine HC3.out.mono ?_; rintro e wc3 ⟨rfl, hw3⟩; have HBC3 := HBX3; rw [hw3] at HBC3; clear hq3a hq3b hst3; rw [hw3] at hx3; have hy3 := cell_of_row _ _ 1 _ _ _ hx3; simp only [List.getElem?_toArray, List.getElem?_cons_zero, List.getElem?_cons_succ] at hy3; clear hx3 hw3)
    go_ret
    exact ⟨by rw [HVV.out]; rfl, HB.out.trans (HBC3.out.mono HB.out.size)⟩
  · have HVV : Hid (v = 5) := by
      show _ = _
      rw [← HV2.out]
      rw [if_neg (by rw [hs]; decide), if_neg (by rw [hu]; decide), if_neg (by simpa using he), if_pos ht]
    go_wp2_with fail
    refine wp_loop_rounds 4 ?_
    rw [rounds_succ]
    have hq1a := HROW.out w2 (Below.refl _ _) 0
    have hq1b := HROW.out w2 (Below.refl _ _) 1
    simp only [List.getElem?_toArray, List.getElem?_cons_zero, List.getElem?_cons_succ] at hq1a hq1b
    have hst1 := st_ref w2 24 #[.pointer (some ⟨b0, 0, none⟩), .pointer (some ⟨b3, 0, none⟩)] 3
    have hba1 : Below w2.heap.size w2 (w2.alloc (.cells #[.func (.func 24) #[] #[.pointer (some ⟨b0, 0, none⟩), .pointer (some ⟨b3, 0, none⟩)], .int .i64 3] 73)) := (Below.refl _ _).alloc (Nat.le_refl _) _
    have HBX1 : Hid (Below w2.heap.size w2 (w2.alloc (.cells #[.func (.func 24) #[] #[.pointer (some ⟨b0, 0, none⟩), .pointer (some ⟨b3, 0, none⟩)], .int .i64 3] 73))) := hba1
    have hbx := HBX1.out
    have HC1 := Lib.hid (no1_any (HRR.out _ hbx) id HI3.out (HCE.out _ hbx).1 (HCE.out _ hbx).2.2.2)
    have hx1 := heap_alloc_new w2 (.cells #[.func (.func 24) #[] #[.pointer (some ⟨b0, 0, none⟩), .pointer (some ⟨b3, 0, none⟩)], .int .i64 3] 73)
    rw [hs] at HC1
    clear hba1 hbx
    go_wp2_with (go_at_call 24; refine HC1.out.mono ?_; rintro e wc1 ⟨rfl, hw1⟩; have HBC1 := HBX1; rw [hw1] at HBC1; clear hq1a hq1b hst1; rw [hw1] at hx1; have hy1 := cell_of_row _ _ 1 _ _ _ hx1; simp only [List.getElem?_toArray, List.getElem?_cons_zero, List.getElem?_cons_succ] at hy1; clear hx1 hw1)
    rw [rounds_succ]
    have hq2a := HROW.out wc1 (HBC1.out) 2
    have hq2b := HROW.out wc1 (HBC1.out) 3
    simp only [List.getElem?_toArray, List.getElem?_cons_zero, List.getElem?_cons_succ] at hq2a hq2b
    have hst2 := st_ref wc1 25 #[.pointer (some ⟨b0, 0, none⟩), .pointer (some ⟨b1, 0, none⟩)] 4
    have hba2 : Below wc1.heap.size wc1 (wc1.alloc (.cells #[.func (.func 25) #[] #[.pointer (some ⟨b0, 0, none⟩), .pointer (some ⟨b1, 0, none⟩)], .int .i64 4] 73)) := (Below.refl _ _).alloc (Nat.le_refl _) _
    have HBX2 : Hid (Below w2.heap.size w2 (wc1.alloc (.cells #[.func (.func 25) #[] #[.pointer (some ⟨b0, 0, none⟩), .pointer (some ⟨b1, 0, none⟩)], .int .i64 4] 73))) := HBC1.out.trans (hba2.mono HBC1.out.size)
    have hbx := HBX2.out
    have HC2 := Lib.hid (no2_any (HRR.out _ hbx) caller HI1.out (HCE.out _ hbx).1 (HCE.out _ hbx).2.1)
    have hx2 := heap_alloc_new wc1 (.cells #[.func (.func 25) #[] #[.pointer (some ⟨b0, 0, none⟩), .pointer (some ⟨b1, 0, none⟩)], .int .i64 4] 73)
    rw [hu] at HC2
    clear hba2 hbx
    go_wp2_with (go_at_call 25; refine HC2.out.mono ?_; rintro e wc2 ⟨rfl, hw2⟩; have HBC2 := HBX2; rw [hw2] at HBC2; clear hq2a hq2b hst2; rw [hw2] at hx2; have hy2 := cell_of_row _ _ 1 _ _ _ hx2; simp only [List.getElem?_toArray, List.getElem?_cons_zero, List.getElem?_cons_succ] at hy2; clear hx2 hw2)
    rw [rounds_succ]
    have hq3a := HROW.out wc2 (HBC2.out) 4
    have hq3b := HROW.out wc2 (HBC2.out) 5
    simp only [List.getElem?_toArray, List.getElem?_cons_zero, List.getElem?_cons_succ] at hq3a hq3b
    have hst3 := st_ref wc2 26 #[.pointer (some ⟨b3, 0, none⟩), .pointer (some ⟨b2, 0, none⟩)] 1
    have hba3 : Below wc2.heap.size wc2 (wc2.alloc (.cells #[.func (.func 26) #[] #[.pointer (some ⟨b3, 0, none⟩), .pointer (some ⟨b2, 0, none⟩)], .int .i64 1] 73)) := (Below.refl _ _).alloc (Nat.le_refl _) _
    have HBX3 : Hid (Below w2.heap.size w2 (wc2.alloc (.cells #[.func (.func 26) #[] #[.pointer (some ⟨b3, 0, none⟩), .pointer (some ⟨b2, 0, none⟩)], .int .i64 1] 73))) := HBC2.out.trans (hba3.mono HBC2.out.size)
    have hbx := HBX3.out
    have HC3 := Lib.hid (no3_any id current (HCE.out _ hbx).2.2.2 (HCE.out _ hbx).2.2.1)
    have hx3 := heap_alloc_new wc2 (.cells #[.func (.func 26) #[] #[.pointer (some ⟨b3, 0, none⟩), .pointer (some ⟨b2, 0, none⟩)], .int .i64 1] 73)
    rw [he] at HC3
    clear hba3 hbx
    go_wp2_with (go_at_call 26; refine HC3.out.mono ?_; rintro e wc3 ⟨rfl, hw3⟩; have HBC3 := HBX3; rw [hw3] at HBC3; clear hq3a hq3b hst3; rw [hw3] at hx3; have hy3 := cell_of_row _ _ 1 _ _ _ hx3; simp only [List.getElem?_toArray, List.getElem?_cons_zero, List.getElem?_cons_succ] at hy3; clear hx3 hw3)
    rw [rounds_succ]
    have hq4a := HROW.out wc3 (HBC3.out) 6
    have hq4b := HROW.out wc3 (HBC3.out) 7
    simp only [List.getElem?_toArray, List.getElem?_cons_zero, List.getElem?_cons_succ] at hq4a hq4b
    have hst4 := st_ref wc3 27 #[.pointer (some ⟨b0, 0, none⟩), .pointer (some ⟨b2, 0, none⟩), .pointer (some ⟨b3, 0, none⟩)] 5
    have hba4 : Below wc3.heap.size wc3 (wc3.alloc (.cells #[.func (.func 27) #[] #[.pointer (some ⟨b0, 0, none⟩), .pointer (some ⟨b2, 0, none⟩), .pointer (some ⟨b3, 0, none⟩)], .int .i64 5] 73)) := (Below.refl _ _).alloc (Nat.le_refl _) _
    have HBX4 : Hid (Below w2.heap.size w2 (wc3.alloc (.cells #[.func (.func 27) #[] #[.pointer (some ⟨b0, 0, none⟩), .pointer (some ⟨b2, 0, none⟩), .pointer (some ⟨b3, 0, none⟩)], .int .i64 5] 73))) := HBC3.out.trans (hba4.mono HBC3.out.size)
    have hbx := HBX4.out
    have HC4 := Lib.hid (no4_any (HRR.out _ hbx) id current HI3.out HI2.out (HCE.out _ hbx).1 (HCE.out _ hbx).2.2.1 (HCE.out _ hbx).2.2.2)
    have hx4 := heap_alloc_new wc3 (.cells #[.func (.func 27) #[] #[.pointer (some ⟨b0, 0, none⟩), .pointer (some ⟨b2, 0, none⟩), .pointer (some ⟨b3, 0, none⟩)], .int .i64 5] 73)
    rw [ht] at HC4
    clear hba4 hbx
    go_wp2_with (go_at_call 27; refine HC4.out.mono ?_; rintro e wc4 ⟨rfl, hw4⟩; have HBC4 : Hid (Below w2.heap.size w2 wc4) := HBX4.out.trans (hw4.mono HBX4.out.size); clear hq4a hq4b hst4; have hx4b := (hw4.block _ (lt_of_block hx4)).trans hx4; have hy4 := cell_of_row _ _ 1 _ _ _ hx4b; simp only [List.getElem?_toArray, List.getElem?_cons_zero, List.getElem?_cons_succ] at hy4; clear hx4 hx4b hw4)
    go_ret
    exact ⟨by rw [HVV.out]; rfl, HB.out.trans (HBC4.out.mono HB.out.size)⟩
  · have HVV : Hid (v = 0) := by
      show _ = _
      rw [← HV2.out]
      rw [if_neg (by rw [hs]; decide), if_neg (by rw [hu]; decide), if_neg (by simpa using he), if_neg (by rw [ht]; decide)]
    go_wp2_with fail
    refine wp_loop_rounds 5 ?_
    rw [rounds_succ]
    have hq1a := HROW.out w2 (Below.refl _ _) 0
    have hq1b := HROW.out w2 (Below.refl _ _) 1
    simp only [List.getElem?_toArray, List.getElem?_cons_zero, List.getElem?_cons_succ] at hq1a hq1b
    have hst1 := st_ref w2 24 #[.pointer (some ⟨b0, 0, none⟩), .pointer (some ⟨b3, 0, none⟩)] 3
    have hba1 : Below w2.heap.size w2 (w2.alloc (.cells #[.func (.func 24) #[] #[.pointer (some ⟨b0, 0, none⟩), .pointer (some ⟨b3, 0, none⟩)], .int .i64 3] 73)) := (Below.refl _ _).alloc (Nat.le_refl _) _
    have HBX1 : Hid (Below w2.heap.size w2 (w2.alloc (.cells #[.func (.func 24) #[] #[.pointer (some ⟨b0, 0, none⟩), .pointer (some ⟨b3, 0, none⟩)], .int .i64 3] 73))) := hba1
    have hbx := HBX1.out
    have HC1 := Lib.hid (no1_any (HRR.out _ hbx) id HI3.out (HCE.out _ hbx).1 (HCE.out _ hbx).2.2.2)
    have hx1 := heap_alloc_new w2 (.cells #[.func (.func 24) #[] #[.pointer (some ⟨b0, 0, none⟩), .pointer (some ⟨b3, 0, none⟩)], .int .i64 3] 73)
    rw [hs] at HC1
    clear hba1 hbx
    go_wp2_with (go_at_call 24; refine HC1.out.mono ?_; rintro e wc1 ⟨rfl, hw1⟩; have HBC1 := HBX1; rw [hw1] at HBC1; clear hq1a hq1b hst1; rw [hw1] at hx1; have hy1 := cell_of_row _ _ 1 _ _ _ hx1; simp only [List.getElem?_toArray, List.getElem?_cons_zero, List.getElem?_cons_succ] at hy1; clear hx1 hw1)
    rw [rounds_succ]
    have hq2a := HROW.out wc1 (HBC1.out) 2
    have hq2b := HROW.out wc1 (HBC1.out) 3
    simp only [List.getElem?_toArray, List.getElem?_cons_zero, List.getElem?_cons_succ] at hq2a hq2b
    have hst2 := st_ref wc1 25 #[.pointer (some ⟨b0, 0, none⟩), .pointer (some ⟨b1, 0, none⟩)] 4
    have hba2 : Below wc1.heap.size wc1 (wc1.alloc (.cells #[.func (.func 25) #[] #[.pointer (some ⟨b0, 0, none⟩), .pointer (some ⟨b1, 0, none⟩)], .int .i64 4] 73)) := (Below.refl _ _).alloc (Nat.le_refl _) _
    have HBX2 : Hid (Below w2.heap.size w2 (wc1.alloc (.cells #[.func (.func 25) #[] #[.pointer (some ⟨b0, 0, none⟩), .pointer (some ⟨b1, 0, none⟩)], .int .i64 4] 73))) := HBC1.out.trans (hba2.mono HBC1.out.size)
    have hbx := HBX2.out
    have HC2 := Lib.hid (no2_any (HRR.out _ hbx) caller HI1.out (HCE.out _ hbx).1 (HCE.out _ hbx).2.1)
    have hx2 := heap_alloc_new wc1 (.cells #[.func (.func 25) #[] #[.pointer (some ⟨b0, 0, none⟩), .pointer (some ⟨b1, 0, none⟩)], .int .i64 4] 73)
    rw [hu] at HC2
    clear hba2 hbx
    go_wp2_with (go_at_call 25; refine HC2.out.mono ?_; rintro e wc2 ⟨rfl, hw2⟩; have HBC2 := HBX2; rw [hw2] at HBC2; clear hq2a hq2b hst2; rw [hw2] at hx2; have hy2 := cell_of_row _ _ 1 _ _ _ hx2; simp only [List.getElem?_toArray, List.getElem?_cons_zero, List.getElem?_cons_succ] at hy2; clear hx2 hw2)
    rw [rounds_succ]
    have hq3a := HROW.out wc2 (HBC2.out) 4
    have hq3b := HROW.out wc2 (HBC2.out) 5
    simp only [List.getElem?_toArray, List.getElem?_cons_zero, List.getElem?_cons_succ] at hq3a hq3b
    have hst3 := st_ref wc2 26 #[.pointer (some ⟨b3, 0, none⟩), .pointer (some ⟨b2, 0, none⟩)] 1
    have hba3 : Below wc2.heap.size wc2 (wc2.alloc (.cells #[.func (.func 26) #[] #[.pointer (some ⟨b3, 0, none⟩), .pointer (some ⟨b2, 0, none⟩)], .int .i64 1] 73)) := (Below.refl _ _).alloc (Nat.le_refl _) _
    have HBX3 : Hid (Below w2.heap.size w2 (wc2.alloc (.cells #[.func (.func 26) #[] #[.pointer (some ⟨b3, 0, none⟩), .pointer (some ⟨b2, 0, none⟩)], .int .i64 1] 73))) := HBC2.out.trans (hba3.mono HBC2.out.size)
    have hbx := HBX3.out
    have HC3 := Lib.hid (no3_any id current (HCE.out _ hbx).2.2.2 (HCE.out _ hbx).2.2.1)
    have hx3 := heap_alloc_new wc2 (.cells #[.func (.func 26) #[] #[.pointer (some ⟨b3, 0, none⟩), .pointer (some ⟨b2, 0, none⟩)], .int .i64 1] 73)
    rw [he] at HC3
    clear hba3 hbx
    go_wp2_with (go_at_call 26; refine HC3.out.mono ?_; rintro e wc3 ⟨rfl, hw3⟩; have HBC3 := HBX3; rw [hw3] at HBC3; clear hq3a hq3b hst3; rw [hw3] at hx3; have hy3 := cell_of_row _ _ 1 _ _ _ hx3; simp only [List.getElem?_toArray, List.getElem?_cons_zero, List.getElem?_cons_succ] at hy3; clear hx3 hw3)
    rw [rounds_succ]
    have hq4a := HROW.out wc3 (HBC3.out) 6
    have hq4b := HROW.out wc3 (HBC3.out) 7
    simp only [List.getElem?_toArray, List.getElem?_cons_zero, List.getElem?_cons_succ] at hq4a hq4b
    have hst4 := st_ref wc3 27 #[.pointer (some ⟨b0, 0, none⟩), .pointer (some ⟨b2, 0, none⟩), .pointer (some ⟨b3, 0, none⟩)] 5
    have hba4 : Below wc3.heap.size wc3 (wc3.alloc (.cells #[.func (.func 27) #[] #[.pointer (some ⟨b0, 0, none⟩), .pointer (some ⟨b2, 0, none⟩), .pointer (some ⟨b3, 0, none⟩)], .int .i64 5] 73)) := (Below.refl _ _).alloc (Nat.le_refl _) _
    have HBX4 : Hid (Below w2.heap.size w2 (wc3.alloc (.cells #[.func (.func 27) #[] #[.pointer (some ⟨b0, 0, none⟩), .pointer (some ⟨b2, 0, none⟩), .pointer (some ⟨b3, 0, none⟩)], .int .i64 5] 73))) := HBC3.out.trans (hba4.mono HBC3.out.size)
    have hbx := HBX4.out
    have HC4 := Lib.hid (no4_any (HRR.out _ hbx) id current HI3.out HI2.out (HCE.out _ hbx).1 (HCE.out _ hbx).2.2.1 (HCE.out _ hbx).2.2.2)
    have hx4 := heap_alloc_new wc3 (.cells #[.func (.func 27) #[] #[.pointer (some ⟨b0, 0, none⟩), .pointer (some ⟨b2, 0, none⟩), .pointer (some ⟨b3, 0, none⟩)], .int .i64 5] 73)
    rw [ht] at HC4
    clear hba4 hbx
    go_wp2_with (go_at_call 27; refine HC4.out.mono ?_; rintro e wc4 ⟨rfl, hw4⟩; have HBC4 : Hid (Below w2.heap.size w2 wc4) := HBX4.out.trans (hw4.mono HBX4.out.size); clear hq4a hq4b hst4; have hx4b := (hw4.block _ (lt_of_block hx4)).trans hx4; have hy4 := cell_of_row _ _ 1 _ _ _ hx4b; simp only [List.getElem?_toArray, List.getElem?_cons_zero, List.getElem?_cons_succ] at hy4; clear hx4 hx4b hw4)
    rw [rounds_succ]
    go_wp2
    go_ret
    exact ⟨by rw [HVV.out]; rfl, HB.out.trans (HBC4.out.mono HB.out.size)⟩
end

end Go.Proofs.Ytbfhcphjeiojmaa.Lat
