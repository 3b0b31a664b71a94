/- What is wrong with a module (check.Module). Condition: at most a thousand of each, its schedules at most 400 windows. -/
import Derived.Test.YtmcmmbkodllpkaaGreatDoorMg40
namespace Go.Proofs.YtmcmmbkodllpkaaGreatDoor.Chk

open Go.RowKit Go.PlainAid Go.Proofs.YtmcmmbkodllpkaaGreatDoor.Flt Go.Proofs.YtmcmmbkodllpkaaGreatDoor.Rdr Go.Proofs.YtmcmmbkodllpkaaGreatDoor.Win Go.Proofs.YtmcmmbkodllpkaaGreatDoor.Nee Go.Proofs.YtmcmmbkodllpkaaGreatDoor.Rel

open Go.Proofs.YtmcmmbkodllpkaaGreatDoor.Cel (own_slice own_keep own_base)

open Go.Proofs.YtmcmmbkodllpkaaGreatDoor.Prt (PT PartsAt)

open Go.Proofs.YtmcmmbkodllpkaaGreatDoor.Scd (SC ScdAt ScdAt.kept)

open Go.Proofs.YtmcmmbkodllpkaaGreatDoor.Pai (P2 PairsAt PairsAt.kept)

open Go.Proofs.YtmcmmbkodllpkaaGreatDoor.Act (A3 ActsAt ActsAt.kept I64 Wide)

open Go.Proofs.YtmcmmbkodllpkaaGreatDoor.Lat (LP LS LPAt LSAt MAt cparts_any cscheds_any PidPost IdsPost ZAt ZAt.kept zat_own)

set_option linter.unusedVariables false

set_option linter.unusedSimpArgs false

theorem st_sec (w : World) (f : FuncId) (k : Int) : Sem.run Tryz.prog (storeVar 56 ⟨w.heap.size, 0, none⟩ (.agg #[.int .i64 k, .func (.func f) #[] #[]])) (w.alloc (.cells #[.int .i64 0, .nilFunc] 56)) = .ok () (w.alloc (.cells #[.int .i64 k, .func (.func f) #[] #[]] 56)) :=
  run_storeVar_new w _ _ _ (by kernel_rfl) rfl (by simp [Value.oneCell'])
def secRow : Array Value := #[.int .i64 1, .func (.func 38) #[] #[], .int .i64 2, .func (.func 39) #[] #[], .int .i64 3, .func (.func 40) #[] #[], .int .i64 4, .func (.func 41) #[] #[], .int .i64 5, .func (.func 42) #[] #[]]
def SecPost (w : World) (e : Ending) (w' : World) : Prop := ∃ R, e = .returned (.slice (some ⟨R, 0, none⟩) 5 5) ∧ w'.heap[R]? = some (.cells secRow 56 (0, 0)) ∧ Below w.heap.size w w'
set_option maxRecDepth 4000 in
theorem sections_any (w : World) : Calls Tryz.prog 21 #[] w (SecPost w) := by
  go_enter Tryz.func21, Tryz.ntmps21
  go_wp2
  go_ret
  exact ⟨w.heap.size, rfl, heap_alloc_new _ _, (Below.refl _ _).alloc (Nat.le_refl _) _⟩
theorem modM_eq (f : Int) (ps : List PT) (ss : List SC) (qs : List P2) (av : List A3) : modM f ps ss qs av = inS 1 (if inL (ss.map SC.id) f then (0, []) else (10, [])) (inS 2 (secPt ps) (inS 3 (secSc (ps.map PT.id) ss) (inS 4 (secPr (ss.map SC.id) qs) (inS 5 (secAc (ss.map SC.id) (ps.map PT.id) av) (0, []))))) := rfl
theorem inS_pos {n : Int} {q r : KW} (h : q.1 = 0) : inS n q r = r := by unfold inS; rw [if_pos h]
theorem inS_neg {n : Int} {q r : KW} (h : ¬ q.1 = 0) : inS n q r = (q.1, (true, n) :: q.2) := by unfold inS; rw [if_neg h]
theorem wrongK_in {w : World} {x : Value} {q : KW} (h : WrongK w x q) (h0 : ¬ q.1 = 0) : IsFault w x q.2 q.1 ∧ 1 ≤ q.1 ∧ q.1 ≤ 18 := by
  rcases h with ⟨h, _⟩ | ⟨h1, h2, h3⟩
  · exact absurd h h0
  · exact ⟨h3, h1, h2⟩
theorem wrongK_nil {w : World} {x : Value} {q : KW} (h : WrongK w x q) (h0 : q.1 = 0) : x = .nilIface := by
  rcases h with ⟨_, h⟩ | ⟨h, _, _⟩
  · exact h
  · omega
section

variable {w : World} {PA SA QA AA : Option Addr} {np pc ns sc nq qc na acp : Nat} {ps : List PT} {ss : List SC} {qs : List P2} {av : List A3} {e f : Int} {lp : List LP} {ls : List LS} {lq : List Go.Proofs.YtmcmmbkodllpkaaGreatDoor.Lat.P2}
attribute [-go_sem] storeVar
set_option maxRecDepth 8000 in
set_option maxHeartbeats 6400000 in
theorem module_any (hn : Names w) (h : BMod w PA SA QA AA np ns nq na ps ss qs av) (hm : MAt w PA SA QA np ns nq lp ls lq) (hp : np ≤ 1000) (hs : ns ≤ 1000) (hq : nq ≤ 1000) (ha : na ≤ 9223372036854775807) (hw : ∀ x ∈ ss, x.ws.length ≤ 400 ∧ x.ns.length ≤ 9223372036854775807) :
    Calls Tryz.prog 7 #[.agg #[.int .u64 e, .int .i64 f, .slice PA np pc, .slice SA ns sc, .slice QA nq qc, .slice AA na acp]] w fun e w' => ∃ x, e = .returned x ∧ WrongK w' x (modM f ps ss qs av) ∧ Below w.heap.size w w' := by
  have H1 := Lib.hid (fun (W : World) (b : Below w.heap.size w W) => first_any (pc := pc) (sc := sc) (qc := qc) (acp := acp) (e := e) (f := f) (hn.kept b) (h.kept b) hs)
  have H2 := Lib.hid (fun (W : World) (b : Below w.heap.size w W) => partitions_any (pc := pc) (sc := sc) (qc := qc) (acp := acp) (e := e) (f := f) (hn.kept b) (h.kept b) hp)
  have H3 := Lib.hid (fun (W : World) (b : Below w.heap.size w W) => schedules_any (pc := pc) (sc := sc) (qc := qc) (acp := acp) (e := e) (f := f) (hn.kept b) (h.kept b) (hm.kept b) hp hs hw)
  have H4 := Lib.hid (fun (W : World) (b : Below w.heap.size w W) => transitions_any (pc := pc) (sc := sc) (qc := qc) (acp := acp) (e := e) (f := f) (hn.kept b) (h.kept b) (hm.kept b) hs hq)
  have H5 := Lib.hid (fun (W : World) (b : Below w.heap.size w W) => actions_any (pc := pc) (sc := sc) (qc := qc) (acp := acp) (e := e) (f := f) (hn.kept b) (h.kept b) (hm.kept b) hp hs ha)
  have hmod := modM_eq f ps ss qs av
  obtain ⟨q1, hq1⟩ : ∃ q : KW, (if inL (ss.map SC.id) f then (0, []) else (10, [])) = q := ⟨_, rfl⟩
  obtain ⟨q2, hq2⟩ : ∃ q, secPt ps = q := ⟨_, rfl⟩
  obtain ⟨q3, hq3⟩ : ∃ q, secSc (ps.map PT.id) ss = q := ⟨_, rfl⟩
  obtain ⟨q4, hq4⟩ : ∃ q, secPr (ss.map SC.id) qs = q := ⟨_, rfl⟩
  obtain ⟨q5, hq5⟩ : ∃ q, secAc (ss.map SC.id) (ps.map PT.id) av = q := ⟨_, rfl⟩
  rw [hq1, hq2, hq3, hq4, hq5] at hmod
  rw [hq1] at H1
  rw [hq2] at H2
  rw [hq3] at H3
  rw [hq4] at H4
  rw [hq5] at H5
  obtain ⟨mm, hmm⟩ : ∃ q, modM f ps ss qs av = q := ⟨_, rfl⟩
  rw [hmm] at hmod ⊢
  have HMM := Lib.hid hmod
  clear hmod hmm hq1 hq2 hq3 hq4 hq5 hn h hm hp hs hq ha hw
  have hb0 : Below w.heap.size w (w.alloc (.cells #[.int .u64 e, .int .i64 f, .slice PA np pc, .slice SA ns sc, .slice QA nq qc, .slice AA na acp] 28)) := (Below.refl _ _).alloc (Nat.le_refl _) _
  have hx0 := heap_alloc_new w (.cells #[.int .u64 e, .int .i64 f, .slice PA np pc, .slice SA ns sc, .slice QA nq qc, .slice AA na acp] 28)
  obtain ⟨W1, hW1⟩ : ∃ W, w.alloc (.cells #[.int .u64 e, .int .i64 f, .slice PA np pc, .slice SA ns sc, .slice QA nq qc, .slice AA na acp] 28) = W := ⟨_, rfl⟩
  rw [hW1] at hb0 hx0
  have HSS : Hid (∀ wx : World, Below W1.heap.size W1 wx → wx.cell? ⟨w.heap.size, 0, none⟩ = some (.int .u64 e) ∧ wx.cell? ⟨w.heap.size, 1, none⟩ = some (.int .i64 f) ∧ wx.cell? ⟨w.heap.size, 2, none⟩ = some (.slice PA np pc) ∧ wx.cell? ⟨w.heap.size, 3, none⟩ = some (.slice SA ns sc) ∧ wx.cell? ⟨w.heap.size, 4, none⟩ = some (.slice QA nq qc) ∧ wx.cell? ⟨w.heap.size, 5, none⟩ = some (.slice AA na acp)) := fun wx b => by
    have h2 := (b.block _ (lt_of_block hx0)).trans hx0
    refine ⟨?_, ?_, ?_, ?_, ?_, ?_⟩ <;> rw [cell_of_row wx _ _ _ _ _ h2] <;> rfl
  have HBM := Lib.hid hb0
  have HW1 := Lib.hid hW1
  have HSE := Lib.hid (sections_any W1)
  clear hb0 hx0 hW1
  go_enter Tryz.func7, Tryz.ntmps7
  go_wp2_with fail
  rw [HW1.out]
  refine HSE.out.mono ?_
  rintro e w0 ⟨R, rfl, hr, hb⟩
  have HB0 := Lib.hid (HBM.out.trans (hb.mono HBM.out.size))
  have HS1 := Lib.hid hb
  have hrow : ∀ W, Below w0.heap.size w0 W → ∀ j, W.cell? ⟨R, j, none⟩ = secRow[j]? := fun W e j => cell_of_row W _ j _ _ _ ((e.block _ (lt_of_block hr)).trans hr)
  have HROW := Lib.hid hrow
  have HD0 : Hid (Below w0.heap.size w0 w0) := Below.refl _ _
  clear hr hb hrow HSE
  go_wp2_with fail
  refine wp_loop_rounds 6 ?_
  rw [rounds_succ]
  have hq1a := HROW.out w0 HD0.out 0
  have hq1b := HROW.out w0 HD0.out 1
  simp only [secRow, List.getElem?_toArray, List.getElem?_cons_zero, List.getElem?_cons_succ] at hq1a hq1b
  have hst1 := st_sec w0 38 1
  have hba : Below w0.heap.size w0 (w0.alloc (.cells #[.int .i64 1, .func (.func 38) #[] #[]] 56)) := (Below.refl _ _).alloc (Nat.le_refl _) _
  have HBX1 := Lib.hid (HB0.out.trans (hba.mono HB0.out.size))
  have HDX1 := Lib.hid (HD0.out.trans (hba.mono HD0.out.size))
  have hx := heap_alloc_new w0 (.cells #[.int .i64 1, .func (.func 38) #[] #[]] 56)
  have HC1 := Lib.hid (H1.out _ HBX1.out)
  have hzz := HSS.out _ (HS1.out.trans (HDX1.out.mono HS1.out.size))
  obtain ⟨z0, z1, z2, z3, z4, z5⟩ := hzz
  have HX := Lib.hid hx
  clear hba hx
  go_wp2_with fail
  refine HC1.out.mono ?_
  rintro e w1 ⟨v, rfl, hv, hb⟩
  have HB1 := Lib.hid (HBX1.out.trans (hb.mono HBX1.out.size))
  have HD1 := Lib.hid (HDX1.out.trans (hb.mono HDX1.out.size))
  have hy1 := cell_of_row _ _ 0 _ _ _ ((hb.block _ (lt_of_block HX.out)).trans HX.out)
  simp only [List.getElem?_toArray, List.getElem?_cons_zero, List.getElem?_cons_succ] at hy1
  clear hq1a hq1b hst1 hb HX HC1 z0 z1 z2 z3 z4 z5
  by_cases hk1 : q1.1 = 0
  rotate_left
  · obtain ⟨u, y, rfl⟩ := wrongK_iface hv hk1
    have hif := wrongK_in hv hk1
    have HIF := Lib.hid hif
    have HIN := Lib.hid (in_any 1 _ _ _ w1 hif.1)
    have HE : Hid (mm = (q1.1, (true, 1) :: q1.2)) := by show _ = _; rw [HMM.out, inS_neg hk1]
    clear hv hif hk1
    go_wp2_with (go_at_call 22; refine HIN.out.mono ?_; rintro e W9 ⟨y9, rfl, hy9, hb9⟩; have HY9 := Lib.hid hy9; have HB9 := Lib.hid (HB1.out.trans (hb9.mono HB1.out.size)); clear hy9 hb9)
    go_ret
    exact ⟨_, rfl, by rw [HE.out]; exact .inr ⟨HIF.out.2.1, HIF.out.2.2, HY9.out⟩, HB9.out⟩
  obtain rfl := wrongK_nil hv hk1
  have HK1 := Lib.hid hk1
  clear hv hk1
  go_wp2
  rw [rounds_succ]
  have hq2a := HROW.out w1 HD1.out 2
  have hq2b := HROW.out w1 HD1.out 3
  simp only [secRow, List.getElem?_toArray, List.getElem?_cons_zero, List.getElem?_cons_succ] at hq2a hq2b
  have hst2 := st_sec w1 39 2
  have hba : Below w1.heap.size w1 (w1.alloc (.cells #[.int .i64 2, .func (.func 39) #[] #[]] 56)) := (Below.refl _ _).alloc (Nat.le_refl _) _
  have HBX2 := Lib.hid (HB1.out.trans (hba.mono HB1.out.size))
  have HDX2 := Lib.hid (HD1.out.trans (hba.mono HD1.out.size))
  have hx := heap_alloc_new w1 (.cells #[.int .i64 2, .func (.func 39) #[] #[]] 56)
  have HC2 := Lib.hid (H2.out _ HBX2.out)
  have hzz := HSS.out _ (HS1.out.trans (HDX2.out.mono HS1.out.size))
  obtain ⟨z0, z1, z2, z3, z4, z5⟩ := hzz
  have HX := Lib.hid hx
  clear hba hx
  go_wp2_with fail
  refine HC2.out.mono ?_
  rintro e w2 ⟨v, rfl, hv, hb⟩
  have HB2 := Lib.hid (HBX2.out.trans (hb.mono HBX2.out.size))
  have HD2 := Lib.hid (HDX2.out.trans (hb.mono HDX2.out.size))
  have hy2 := cell_of_row _ _ 0 _ _ _ ((hb.block _ (lt_of_block HX.out)).trans HX.out)
  simp only [List.getElem?_toArray, List.getElem?_cons_zero, List.getElem?_cons_succ] at hy2
  clear hq2a hq2b hst2 hb HX HC2 z0 z1 z2 z3 z4 z5
  by_cases hk2 : q2.1 = 0
  rotate_left
  · obtain ⟨u, y, rfl⟩ := wrongK_iface hv hk2
    have hif := wrongK_in hv hk2
    have HIF := Lib.hid hif
    have HIN := Lib.hid (in_any 2 _ _ _ w2 hif.1)
    have HE : Hid (mm = (q2.1, (true, 2) :: q2.2)) := by show _ = _; rw [HMM.out, inS_pos HK1.out, inS_neg hk2]
    clear hv hif hk2
    go_wp2_with (go_at_call 22; refine HIN.out.mono ?_; rintro e W9 ⟨y9, rfl, hy9, hb9⟩; have HY9 := Lib.hid hy9; have HB9 := Lib.hid (HB2.out.trans (hb9.mono HB2.out.size)); clear hy9 hb9)
    go_ret
    exact ⟨_, rfl, by rw [HE.out]; exact .inr ⟨HIF.out.2.1, HIF.out.2.2, HY9.out⟩, HB9.out⟩
  obtain rfl := wrongK_nil hv hk2
  have HK2 := Lib.hid hk2
  clear hv hk2
  go_wp2
  rw [rounds_succ]
  have hq3a := HROW.out w2 HD2.out 4
  have hq3b := HROW.out w2 HD2.out 5
  simp only [secRow, List.getElem?_toArray, List.getElem?_cons_zero, List.getElem?_cons_succ] at hq3a hq3b
  have hst3 := st_sec w2 40 3
  have hba : Below w2.heap.size w2 (w2.alloc (.cells #[.int .i64 3, .func (.func 40) #[] #[]] 56)) := (Below.refl _ _).alloc (Nat.le_refl _) _
  have HBX3 := Lib.hid (HB2.out.trans (hba.mono HB2.out.size))
  have HDX3 := Lib.hid (HD2.out.trans (hba.mono HD2.out.size))
  have hx := heap_alloc_new w2 (.cells #[.int .i64 3, .func (.func 40) #[] #[]] 56)
  have HC3 := Lib.hid (H3.out _ HBX3.out)
  have hzz := HSS.out _ (HS1.out.trans (HDX3.out.mono HS1.out.size))
  obtain ⟨z0, z1, z2, z3, z4, z5⟩ := hzz
  have HX := Lib.hid hx
  clear hba hx
  go_wp2_with fail
  refine HC3.out.mono ?_
  rintro e w3 ⟨v, rfl, hv, hb⟩
  have HB3 := Lib.hid (HBX3.out.trans (hb.mono HBX3.out.size))
  have HD3 := Lib.hid (HDX3.out.trans (hb.mono HDX3.out.size))
  have hy3 := cell_of_row _ _ 0 _ _ _ ((hb.block _ (lt_of_block HX.out)).trans HX.out)
  simp only [List.getElem?_toArray, List.getElem?_cons_zero, List.getElem?_cons_succ] at hy3
  clear hq3a hq3b hst3 hb HX HC3 z0 z1 z2 z3 z4 z5
  by_cases hk3 : q3.1 = 0
  rotate_left
  · obtain ⟨u, y, rfl⟩ := wrongK_iface hv hk3
    have hif := wrongK_in hv hk3
    have HIF := Lib.hid hif
    have HIN := Lib.hid (in_any 3 _ _ _ w3 hif.1)
    have HE : Hid (mm = (q3.1, (true, 3) :: q3.2)) := by show _ = _; rw [HMM.out, inS_pos HK1.out, inS_pos HK2.out, inS_neg hk3]
    clear hv hif hk3
    go_wp2_with (go_at_call 22; refine HIN.out.mono ?_; rintro e W9 ⟨y9, rfl, hy9, hb9⟩; have HY9 := Lib.hid hy9; have HB9 := Lib.hid (HB3.out.trans (hb9.mono HB3.out.size)); clear hy9 hb9)
    go_ret
    exact ⟨_, rfl, by rw [HE.out]; exact .inr ⟨HIF.out.2.1, HIF.out.2.2, HY9.out⟩, HB9.out⟩
  obtain rfl := wrongK_nil hv hk3
  have HK3 := Lib.hid hk3
  clear hv hk3
  go_wp2
  rw [rounds_succ]
  have hq4a := HROW.out w3 HD3.out 6
  have hq4b := HROW.out w3 HD3.out 7
  simp only [secRow, List.getElem?_toArray, List.getElem?_cons_zero, List.getElem?_cons_succ] at hq4a hq4b
  have hst4 := st_sec w3 41 4
  have hba : Below w3.heap.size w3 (w3.alloc (.cells #[.int .i64 4, .func (.func 41) #[] #[]] 56)) := (Below.refl _ _).alloc (Nat.le_refl _) _
  have HBX4 := Lib.hid (HB3.out.trans (hba.mono HB3.out.size))
  have HDX4 := Lib.hid (HD3.out.trans (hba.mono HD3.out.size))
  have hx := heap_alloc_new w3 (.cells #[.int .i64 4, .func (.func 41) #[] #[]] 56)
  have HC4 := Lib.hid (H4.out _ HBX4.out)
  have hzz := HSS.out _ (HS1.out.trans (HDX4.out.mono HS1.out.size))
  obtain ⟨z0, z1, z2, z3, z4, z5⟩ := hzz
  have HX := Lib.hid hx
  clear hba hx
  go_wp2_with fail
  refine HC4.out.mono ?_
  rintro e w4 ⟨v, rfl, hv, hb⟩
  have HB4 := Lib.hid (HBX4.out.trans (hb.mono HBX4.out.size))
  have HD4 := Lib.hid (HDX4.out.trans (hb.mono HDX4.out.size))
  have hy4 := cell_of_row _ _ 0 _ _ _ ((hb.block _ (lt_of_block HX.out)).trans HX.out)
  simp only [List.getElem?_toArray, List.getElem?_cons_zero, List.getElem?_cons_succ] at hy4
  clear hq4a hq4b hst4 hb HX HC4 z0 z1 z2 z3 z4 z5
  by_cases hk4 : q4.1 = 0
  rotate_left
  · obtain ⟨u, y, rfl⟩ := wrongK_iface hv hk4
    have hif := wrongK_in hv hk4
    have HIF := Lib.hid hif
    have HIN := Lib.hid (in_any 4 _ _ _ w4 hif.1)
    have HE : Hid (mm = (q4.1, (true, 4) :: q4.2)) := by show _ = _; rw [HMM.out, inS_pos HK1.out, inS_pos HK2.out, inS_pos HK3.out, inS_neg hk4]
    clear hv hif hk4
    go_wp2_with (go_at_call 22; refine HIN.out.mono ?_; rintro e W9 ⟨y9, rfl, hy9, hb9⟩; have HY9 := Lib.hid hy9; have HB9 := Lib.hid (HB4.out.trans (hb9.mono HB4.out.size)); clear hy9 hb9)
    go_ret
    exact ⟨_, rfl, by rw [HE.out]; exact .inr ⟨HIF.out.2.1, HIF.out.2.2, HY9.out⟩, HB9.out⟩
  obtain rfl := wrongK_nil hv hk4
  have HK4 := Lib.hid hk4
  clear hv hk4
  go_wp2
  rw [rounds_succ]
  have hq5a := HROW.out w4 HD4.out 8
  have hq5b := HROW.out w4 HD4.out 9
  simp only [secRow, List.getElem?_toArray, List.getElem?_cons_zero, List.getElem?_cons_succ] at hq5a hq5b
  have hst5 := st_sec w4 42 5
  have hba : Below w4.heap.size w4 (w4.alloc (.cells #[.int .i64 5, .func (.func 42) #[] #[]] 56)) := (Below.refl _ _).alloc (Nat.le_refl _) _
  have HBX5 := Lib.hid (HB4.out.trans (hba.mono HB4.out.size))
  have HDX5 := Lib.hid (HD4.out.trans (hba.mono HD4.out.size))
  have hx := heap_alloc_new w4 (.cells #[.int .i64 5, .func (.func 42) #[] #[]] 56)
  have HC5 := Lib.hid (H5.out _ HBX5.out)
  have hzz := HSS.out _ (HS1.out.trans (HDX5.out.mono HS1.out.size))
  obtain ⟨z0, z1, z2, z3, z4, z5⟩ := hzz
  have HX := Lib.hid hx
  clear hba hx
  go_wp2_with fail
  refine HC5.out.mono ?_
  rintro e w5 ⟨v, rfl, hv, hb⟩
  have HB5 := Lib.hid (HBX5.out.trans (hb.mono HBX5.out.size))
  have HD5 := Lib.hid (HDX5.out.trans (hb.mono HDX5.out.size))
  have hy5 := cell_of_row _ _ 0 _ _ _ ((hb.block _ (lt_of_block HX.out)).trans HX.out)
  simp only [List.getElem?_toArray, List.getElem?_cons_zero, List.getElem?_cons_succ] at hy5
  clear hq5a hq5b hst5 hb HX HC5 z0 z1 z2 z3 z4 z5
  by_cases hk5 : q5.1 = 0
  rotate_left
  · obtain ⟨u, y, rfl⟩ := wrongK_iface hv hk5
    have hif := wrongK_in hv hk5
    have HIF := Lib.hid hif
    have HIN := Lib.hid (in_any 5 _ _ _ w5 hif.1)
    have HE : Hid (mm = (q5.1, (true, 5) :: q5.2)) := by show _ = _; rw [HMM.out, inS_pos HK1.out, inS_pos HK2.out, inS_pos HK3.out, inS_pos HK4.out, inS_neg hk5]
    clear hv hif hk5
    go_wp2_with (go_at_call 22; refine HIN.out.mono ?_; rintro e W9 ⟨y9, rfl, hy9, hb9⟩; have HY9 := Lib.hid hy9; have HB9 := Lib.hid (HB5.out.trans (hb9.mono HB5.out.size)); clear hy9 hb9)
    go_ret
    exact ⟨_, rfl, by rw [HE.out]; exact .inr ⟨HIF.out.2.1, HIF.out.2.2, HY9.out⟩, HB9.out⟩
  obtain rfl := wrongK_nil hv hk5
  have HK5 := Lib.hid hk5
  clear hv hk5
  go_wp2
  rw [rounds_succ]
  go_wp2
  go_ret
  exact ⟨_, rfl, by rw [HMM.out, inS_pos HK1.out, inS_pos HK2.out, inS_pos HK3.out, inS_pos HK4.out, inS_pos HK5.out]; exact .inl ⟨rfl, rfl⟩, HB5.out⟩
end

end Go.Proofs.YtmcmmbkodllpkaaGreatDoor.Chk
