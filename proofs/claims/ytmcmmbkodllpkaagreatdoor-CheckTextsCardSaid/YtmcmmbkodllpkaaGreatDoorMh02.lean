/- The document's Inner: the number of the window or need that is wrong. Condition: at most a thousand of each, its schedules at most 400 windows. -/
import Derived.Test.YtmcmmbkodllpkaaGreatDoorMh01
import Derived.Deep.RegionLaw
namespace Go.Proofs.YtmcmmbkodllpkaaGreatDoor.Chk

open Go.RowKit Go.PlainAid Go.Proofs.YtmcmmbkodllpkaaGreatDoor.Flt Go.Proofs.YtmcmmbkodllpkaaGreatDoor.Rdr Go.Proofs.YtmcmmbkodllpkaaGreatDoor.Win Go.Proofs.YtmcmmbkodllpkaaGreatDoor.Nee Go.Proofs.YtmcmmbkodllpkaaGreatDoor.Rel

open Go.Proofs.YtmcmmbkodllpkaaGreatDoor.Cel (own_slice own_keep own_base)

open Go.Proofs.YtmcmmbkodllpkaaGreatDoor.Prt (PT PartsAt)

open Go.Proofs.YtmcmmbkodllpkaaGreatDoor.Scd (SC ScdAt ScdAt.kept)

open Go.Proofs.YtmcmmbkodllpkaaGreatDoor.Pai (P2 PairsAt PairsAt.kept)

open Go.Proofs.YtmcmmbkodllpkaaGreatDoor.Act (A3 ActsAt ActsAt.kept I64 Wide)

open Go.Proofs.YtmcmmbkodllpkaaGreatDoor.Lat (LP LS LPAt LSAt MAt cparts_any cscheds_any rscheds_any long_any LongPost PidPost IdsPost ZAt ZAt.kept zat_own)

set_option linter.unusedVariables false

set_option linter.unusedSimpArgs false

open Go.Proofs.YtmcmmbkodllpkaaGreatDoor.Lat (rin15_any)

open Go.Proofs.YtmcmmbkodllpkaaGreatDoor.Prt (PartsAt.kept)

open Go.Proofs.YtmcmmbkodllpkaaGreatDoor.Scd (WideS scC rgS rgS_le rgS_in rgS_id rowB lastS lastS_snoc sright09_any)

theorem size_sch : (Tryz.prog.info? 49).map (·.size) = some 4 := by kernel_rfl
theorem one_sch (a b : Int) (A C : Option Addr) (n c m d : Nat) : (#[.int .i64 a, .int .i64 b, .slice A n c, .slice C m d] : Array Value).all (·.oneCell') = true := by simp [Value.oneCell']
section

variable {w : World} {PA SA QA AA : Option Addr} {np pc ns sc nQ qc na acp : Nat} {ps : List PT} {ss : List SC} {qs : List P2} {av : List A3} {e f : Int} {lp : List LP} {ls : List LS} {lq : List Go.Proofs.YtmcmmbkodllpkaaGreatDoor.Lat.P2}

set_option maxRecDepth 8000 in
set_option maxHeartbeats 12800000 in
theorem inner_any (h : BMod w PA SA QA AA np ns nQ na ps ss qs av) (hm : MAt w PA SA QA np ns nQ lp ls lq) (hp : np ≤ 1000) (hs : ns ≤ 1000) (hqn : nQ ≤ 1000) (hna : na ≤ 9223372036854775807) (hw : ∀ x ∈ ss, x.ws.length ≤ 400 ∧ x.ns.length ≤ 9223372036854775807) :
    Calls Tryz.prog 17 #[.agg #[.int .u64 e, .int .i64 f, .slice PA np pc, .slice SA ns sc, .slice QA nQ qc, .slice AA na acp]] w fun e w' => e = .returned (.int .i64 (innK (modM f ps ss qs av))) ∧ Below w.heap.size w w' := by
  have hb0 : Below w.heap.size w (w.alloc (.cells #[.int .u64 e, .int .i64 f, .slice PA np pc, .slice SA ns sc, .slice QA nQ qc, .slice AA na acp] 28)) := (Below.refl _ _).alloc (Nat.le_refl _) _
  have hx0 := heap_alloc_new w (.cells #[.int .u64 e, .int .i64 f, .slice PA np pc, .slice SA ns sc, .slice QA nQ qc, .slice AA na acp] 28)
  have HWR : Hid (∀ W, Below w.heap.size w W → Calls Tryz.prog 8 #[.agg #[.int .u64 e, .int .i64 f, .slice PA np pc, .slice SA ns sc, .slice QA nQ qc, .slice AA na acp]] W fun e w' => e = .returned (.agg #[.int .i64 ((modM f ps ss qs av).1 : Nat), .int .i64 (secOf (modM f ps ss qs av).2), .int .i64 (atOf (modM f ps ss qs av).2)]) ∧ Below W.heap.size W w') := fun W b => wrong_any (h.kept b) (hm.kept b) hp hs hqn hna hw
  have h3 := mod_three f ps ss qs av
  obtain ⟨tq, htq⟩ : ∃ q, modM f ps ss qs av = q := ⟨_, rfl⟩
  rw [htq] at HWR h3 ⊢
  obtain ⟨W1, hW1⟩ : ∃ W, w.alloc (.cells #[.int .u64 e, .int .i64 f, .slice PA np pc, .slice SA ns sc, .slice QA nQ qc, .slice AA na acp] 28) = W := ⟨_, rfl⟩
  rw [hW1] at hb0 hx0
  have HW1 := Lib.hid hW1
  have HB0 := Lib.hid hb0
  have HM := Lib.hid h
  have HMM := Lib.hid hm
  have HP : Hid (np ≤ 1000) := hp
  have HSN : Hid (ns ≤ 1000) := hs
  have HWN : Hid (∀ x ∈ ss, x.ws.length ≤ 400 ∧ x.ns.length ≤ 9223372036854775807) := hw
  have HMX : Hid (∀ W, Below W1.heap.size W1 W → W.heap[w.heap.size]? = some (.cells #[.int .u64 e, .int .i64 f, .slice PA np pc, .slice SA ns sc, .slice QA nQ qc, .slice AA na acp] 28 (0, 0))) := fun W b => (b.block _ (lt_of_block hx0)).trans hx0
  obtain ⟨kz, hkz⟩ : ∃ z : Int, (tq.1 : Int) = z := ⟨_, rfl⟩
  obtain ⟨sz, hsz⟩ : ∃ z : Int, secOf tq.2 = z := ⟨_, rfl⟩
  obtain ⟨az, haz⟩ : ∃ z : Int, atOf tq.2 = z := ⟨_, rfl⟩
  rw [hkz, hsz, haz] at HWR
  have hm6 : ∀ wx, Below W1.heap.size W1 wx → wx.cell? ⟨w.heap.size, 0, none⟩ = some (.int .u64 e) ∧ wx.cell? ⟨w.heap.size, 1, none⟩ = some (.int .i64 f) ∧ wx.cell? ⟨w.heap.size, 2, none⟩ = some (.slice PA np pc) ∧ wx.cell? ⟨w.heap.size, 3, none⟩ = some (.slice SA ns sc) ∧ wx.cell? ⟨w.heap.size, 4, none⟩ = some (.slice QA nQ qc) ∧ wx.cell? ⟨w.heap.size, 5, none⟩ = some (.slice AA na acp) := fun wx b => by
    have h2 := HMX.out wx b
    refine ⟨?_, ?_, ?_, ?_, ?_, ?_⟩
    all_goals (rw [cell_of_row _ _ _ _ _ _ h2]; rfl)
  obtain ⟨d0, d1, d2, d3, d4, d5⟩ := hm6 W1 (Below.refl _ _)
  clear h hm hp hs hqn hna hw hb0 hx0 hW1 htq hm6
  go_enter Tryz.func17, Tryz.ntmps17
  go_upto_region 1 with fail
  rw [HW1.out]
  go_wp2_with fail
  refine (HWR.out _ HB0.out).mono ?_
  rintro e0 W2 ⟨rfl, hb2⟩
  have HF2 := Lib.hid (heap_alloc_new W2 (.cells #[.int .i64 0, .int .i64 0, .int .i64 0] 36))
  have HSF := Lib.hid size_flt
  have hb3 : Below W1.heap.size W1 ((W2.alloc (.cells #[.int .i64 0, .int .i64 0, .int .i64 0] 36)).setRow W2.heap.size #[.int .i64 kz, .int .i64 sz, .int .i64 az]) := hb2.trans ⟨rfl, rfl, rfl, by simp, fun b hb => by
    have := hb2.size
    exact (setRow_other _ _ _ _ (by omega)).trans (heap_alloc_old _ _ (by omega))⟩
  have hf3 : ((W2.alloc (.cells #[.int .i64 0, .int .i64 0, .int .i64 0] 36)).setRow W2.heap.size #[.int .i64 kz, .int .i64 sz, .int .i64 az]).heap[W2.heap.size]? = _ := setRow_heap _ _ _ _ _ _ HF2.out
  clear hb2 HWR d0 d1 d2 d3 d4 d5
  go_upto_region 2 with (first
    | ((with_reducible show wpList _ _ _ _ _ _); refine wpList_store_row rfl 36 (.tmp 3) (.tmp 8) rfl W2.heap.size #[.int .i64 kz, .int .i64 sz, .int .i64 az] rfl rfl 36 #[.int .i64 0, .int .i64 0, .int .i64 0] HF2.out (by rw [HSF.out]; rfl) rfl (one_flt kz sz az) ?_))
  obtain ⟨W3, hW3⟩ : ∃ W, (W2.alloc (.cells #[.int .i64 0, .int .i64 0, .int .i64 0] 36)).setRow W2.heap.size #[.int .i64 kz, .int .i64 sz, .int .i64 az] = W := ⟨_, rfl⟩
  obtain ⟨F, hF⟩ : ∃ F, W2.heap.size = F := ⟨_, rfl⟩
  rw [hW3] at hb3 hf3
  rw [hF] at hf3
  rw [hW3, hF]
  clear hW3 hF HF2
  have HB3 := Lib.hid hb3
  have HFX : Hid (∀ W, Below W3.heap.size W3 W → W.heap[F]? = some (.cells #[.int .i64 kz, .int .i64 sz, .int .i64 az] 36 (0, 0))) := fun W b => (b.block _ (lt_of_block hf3)).trans hf3
  have h9 : ∀ wx, Below W3.heap.size W3 wx → wx.cell? ⟨w.heap.size, 0, none⟩ = some (.int .u64 e) ∧ wx.cell? ⟨w.heap.size, 1, none⟩ = some (.int .i64 f) ∧ wx.cell? ⟨w.heap.size, 2, none⟩ = some (.slice PA np pc) ∧ wx.cell? ⟨w.heap.size, 3, none⟩ = some (.slice SA ns sc) ∧ wx.cell? ⟨w.heap.size, 4, none⟩ = some (.slice QA nQ qc) ∧ wx.cell? ⟨w.heap.size, 5, none⟩ = some (.slice AA na acp) ∧ wx.cell? ⟨F, 0, none⟩ = some (.int .i64 kz) ∧ wx.cell? ⟨F, 1, none⟩ = some (.int .i64 sz) ∧ wx.cell? ⟨F, 2, none⟩ = some (.int .i64 az) := fun wx b => by
    have h1 := HMX.out wx (HB3.out.trans (b.mono HB3.out.size))
    have h2 := HFX.out wx b
    refine ⟨?_, ?_, ?_, ?_, ?_, ?_, ?_, ?_, ?_⟩
    all_goals first | (rw [cell_of_row _ _ _ _ _ _ h1]; rfl) | (rw [cell_of_row _ _ _ _ _ _ h2]; rfl)
  obtain ⟨d0, d1, d2, d3, d4, d5, d6, d7, d8⟩ := h9 W3 (Below.refl _ _)
  clear hb3 hf3 h9
  rcases h3 with h3 | ⟨h3, hn⟩ | ⟨i, x, hx, hone, h3⟩
  · have HTQ : Hid (-1 = innK tq) := by show _ = _; unfold innK; rw [if_neg h3]
    have t1 : (sz != 3) = true := by rw [← hsz]; simpa using h3
    clear h3 hkz hsz haz
    go_wp2
    go_ret
    exact ⟨by rw [HTQ.out]; rfl, HB0.out.trans (HB3.out.mono HB0.out.size)⟩
  · have HTQ : Hid (-1 = innK tq) := by show _ = _; rw [h3]; rfl
    rw [h3] at hkz hsz haz
    have t1 : (sz != 3) = false := by rw [← hsz]; rfl
    have t2 : (kz == 8) = true := by rw [← hkz]; rfl
    have t3 : (az == 0) = true := by rw [← haz]; rfl
    rw [HM.out.sl] at hn
    by_cases hn2 : 16 < ns
    · have t4 : decide ((16 : Int) < (ns : Int)) = true := decide_eq_true (by omega)
      have t4n : decide (16 < ns) = true := decide_eq_true hn2
      clear h3 hkz hsz haz hn hn2
      go_wp2
      go_ret
      exact ⟨by rw [HTQ.out]; rfl, HB0.out.trans (HB3.out.mono HB0.out.size)⟩
    · have t4 : decide ((16 : Int) < (ns : Int)) = false := decide_eq_false (by omega)
      have t4n : decide (16 < ns) = false := decide_eq_false hn2
      have t5 : decide ((ns : Int) ≤ az) = true := decide_eq_true (by rw [← haz]; show (ns : Int) ≤ 0; omega)
      clear h3 hkz hsz haz hn hn2
      go_wp2
      go_ret
      exact ⟨by rw [HTQ.out]; rfl, HB0.out.trans (HB3.out.mono HB0.out.size)⟩
  have HTQ := Lib.hid h3
  rw [h3] at hkz hsz haz
  obtain rfl : (i : Int) = az := haz
  have t1 : (sz != 3) = false := by rw [← hsz]; rfl
  have hin : i < ns := by rw [← HM.out.sl]; exact (List.getElem?_eq_some_iff.1 hx).1
  have HONE : Hid ((oneS (ps.map PT.id) (lastS (ss.take i)) x).1 ≠ 0) := hone
  have HKZ : Hid (((oneS (ps.map PT.id) (lastS (ss.take i)) x).1 : Int) = kz) := hkz
  have HX := Lib.hid hx
  have HIN := Lib.hid hin
  by_cases hb : (kz == 8) = true ∧ ((i : Int) == 0) = true ∧ 16 < ns
  · obtain ⟨t2, t3, hn2⟩ := hb
    have HTC : Hid (-1 = innK tq) := by
      show _ = _
      have h8 : (oneS (ps.map PT.id) (lastS (ss.take i)) x).1 = 8 := by
        have h9 := HKZ.out
        have h10 : kz = 8 := by simpa using t2
        omega
      rw [HTQ.out, one_8 h8]
      rfl
    have t4 : decide ((16 : Int) < (ns : Int)) = true := decide_eq_true (by omega)
    have t4n : decide (16 < ns) = true := decide_eq_true hn2
    clear h3 hkz hsz hx hone hin hn2
    go_wp2
    go_ret
    exact ⟨by rw [HTC.out]; rfl, HB0.out.trans (HB3.out.mono HB0.out.size)⟩
  have hways : (kz == 8) = false ∨ ((kz == 8) = true ∧ ((i : Int) == 0) = false) ∨ ((kz == 8) = true ∧ ((i : Int) == 0) = true ∧ decide ((16 : Int) < (ns : Int)) = false ∧ decide (16 < ns) = false) := by
    cases h1 : (kz == 8)
    · exact .inl rfl
    · cases h2 : ((i : Int) == 0)
      · exact .inr (.inl ⟨rfl, rfl⟩)
      · have h5 : ¬ 16 < ns := fun h => hb ⟨h1, h2, h⟩
        exact .inr (.inr ⟨rfl, rfl, decide_eq_false (by omega), decide_eq_false h5⟩)
  obtain ⟨y, BB, cb, CC, cc, rfl, e1, e2, e3, e4, hB, -, -, -, hC, -, -, -⟩ := (HM.out.kept (HB0.out.trans (HB3.out.mono HB0.out.size))).s i x hx
  have HWX := Lib.hid (HM.out.sw x (List.mem_of_getElem? hx))
  have HWL := Lib.hid (HWN.out x (List.mem_of_getElem? hx))
  have t5 : decide ((ns : Int) ≤ (i : Int)) = false := decide_eq_false (by omega)
  have hi0 : (0 : Int) ≤ i := by omega
  have hi1 : (i : Int) < ns := by omega
  have HG4 := Lib.hid (heap_alloc_new W3 (.cells #[.int .i64 0, .int .i64 0, .slice none 0 0, .slice none 0 0] 49))
  have HSS := Lib.hid size_sch
  have hb4 : Below W3.heap.size W3 ((W3.alloc (.cells #[.int .i64 0, .int .i64 0, .slice none 0 0, .slice none 0 0] 49)).setRow W3.heap.size #[.int .i64 x.id, .int .i64 x.fr, .slice BB x.ws.length cb, .slice CC x.ns.length cc]) := ⟨rfl, rfl, rfl, by simp, fun b hb => (setRow_other _ _ _ _ (by omega)).trans (heap_alloc_old _ _ (by omega))⟩
  have hx4 : ((W3.alloc (.cells #[.int .i64 0, .int .i64 0, .slice none 0 0, .slice none 0 0] 49)).setRow W3.heap.size #[.int .i64 x.id, .int .i64 x.fr, .slice BB x.ws.length cb, .slice CC x.ns.length cc]).heap[W3.heap.size]? = _ := setRow_heap _ _ _ _ _ _ HG4.out
  have HBQ := Lib.hid hB
  have HCQ := Lib.hid hC
  clear h3 hkz hsz hx hone hin hb hB hC
  rcases hways with t2 | ⟨t2, t3⟩ | ⟨t2, t3, t4, t4n⟩
  all_goals
    go_upto_region 7 with (first
      | ((with_reducible show wpList _ _ _ _ _ _); refine wpList_store_row rfl 49 (.tmp 4) (.tmp 39) rfl W3.heap.size #[.int .i64 x.id, .int .i64 x.fr, .slice BB x.ws.length cb, .slice CC x.ns.length cc] rfl rfl 49 #[.int .i64 0, .int .i64 0, .slice none 0 0, .slice none 0 0] HG4.out (by rw [HSS.out]; rfl) rfl (one_sch _ _ _ _ _ _ _ _) ?_))
    obtain ⟨W4, hW4⟩ : ∃ W, (W3.alloc (.cells #[.int .i64 0, .int .i64 0, .slice none 0 0, .slice none 0 0] 49)).setRow W3.heap.size #[.int .i64 x.id, .int .i64 x.fr, .slice BB x.ws.length cb, .slice CC x.ns.length cc] = W := ⟨_, rfl⟩
    obtain ⟨Q, hQ⟩ : ∃ Q, W3.heap.size = Q := ⟨_, rfl⟩
    rw [hW4] at hb4 hx4
    rw [hQ] at hx4
    rw [hW4, hQ]
    clear hW4 hQ e1 e2 e3 e4 d0 d1 d2 d3 d4 d5 d6 d7 d8 HG4
    have HB45 := Lib.hid hb4
    have HBA := Lib.hid (HBQ.out.kept hb4)
    have HCA := Lib.hid (HCQ.out.kept hb4)
    have HQC : Hid (∀ wx, Below W4.heap.size W4 wx → wx.cell? ⟨Q, 0, none⟩ = some (.int .i64 x.id) ∧ wx.cell? ⟨Q, 1, none⟩ = some (.int .i64 x.fr) ∧ wx.cell? ⟨Q, 2, none⟩ = some (.slice BB x.ws.length cb) ∧ wx.cell? ⟨Q, 3, none⟩ = some (.slice CC x.ns.length cc) ∧ wx.cell? ⟨w.heap.size, 0, none⟩ = some (.int .u64 e) ∧ wx.cell? ⟨w.heap.size, 1, none⟩ = some (.int .i64 f) ∧ wx.cell? ⟨w.heap.size, 2, none⟩ = some (.slice PA np pc) ∧ wx.cell? ⟨w.heap.size, 3, none⟩ = some (.slice (some y) ns sc) ∧ wx.cell? ⟨w.heap.size, 4, none⟩ = some (.slice QA nQ qc) ∧ wx.cell? ⟨w.heap.size, 5, none⟩ = some (.slice AA na acp) ∧ wx.cell? ⟨F, 0, none⟩ = some (.int .i64 kz) ∧ wx.cell? ⟨F, 1, none⟩ = some (.int .i64 sz) ∧ wx.cell? ⟨F, 2, none⟩ = some (.int .i64 (i : Int))) := fun wx b => by
      have h0 := (b.block _ (lt_of_block hx4)).trans hx4
      have h1 := HMX.out wx (HB3.out.trans ((HB45.out.trans (b.mono HB45.out.size)).mono HB3.out.size))
      have h2 := HFX.out wx (HB45.out.trans (b.mono HB45.out.size))
      refine ⟨?_, ?_, ?_, ?_, ?_, ?_, ?_, ?_, ?_, ?_, ?_, ?_, ?_⟩
      all_goals first | (rw [cell_of_row _ _ _ _ _ _ h0]; rfl) | (rw [cell_of_row _ _ _ _ _ _ h1]; rfl) | (rw [cell_of_row _ _ _ _ _ _ h2]; rfl)
    obtain ⟨rk, hrk⟩ : ∃ rk, rgS x = rk := ⟨_, rfl⟩
    have HRK := Lib.hid hrk
    have HRI : Hid (∀ W, Below W4.heap.size W4 W → Calls Tryz.prog 33 #[.agg #[.int .i64 x.id, .int .i64 x.fr, .slice BB x.ws.length cb, .slice CC x.ns.length cc]] W fun e w' => e = .returned (.int .i64 (rk : Int)) ∧ Below W.heap.size W w') := fun W b => by
      have h := sright09_any x BB cb CC cc W (HBA.out.kept b) (HCA.out.kept b) (by unfold maxLen; have := HWL.out; omega) (by unfold maxLen; have := HWL.out; omega)
      unfold scC at h
      rw [HRK.out] at h
      exact h
    have HBD4 : Hid (Below W4.heap.size W4 W4.drew) := below_refl_drew W4
    obtain ⟨d0, d1, d2, d3, d4, d5, d6, d7, d8, d9, d10, d11, d12⟩ := HQC.out W4 (Below.refl _ _)
    clear hb4 hx4 hrk
    by_cases hr0 : rk = 0
    rotate_left
    · have tr : ((rk : Int) != 0) = true := by simp [hr0]
      have HTC : Hid (-1 = innK tq) := by
        show _ = _
        have h1 : (oneS (ps.map PT.id) (lastS (ss.take i)) x).2 = [] := by unfold oneS; rw [HRK.out, if_neg hr0]
        rw [HTQ.out, h1]
        rfl
      clear hr0
      go_wp2_with fail
      clear d0 d1 d2 d3 d4 d5 d6 d7 d8 d9 d10 d11 d12
      refine wp_region_held_drew (S := (fun wx => wx.cell? ⟨Q, 0, none⟩ = some (.int .i64 x.id) ∧ wx.cell? ⟨Q, 1, none⟩ = some (.int .i64 x.fr) ∧ wx.cell? ⟨Q, 2, none⟩ = some (.slice BB x.ws.length cb) ∧ wx.cell? ⟨Q, 3, none⟩ = some (.slice CC x.ns.length cc) ∧ wx.cell? ⟨w.heap.size, 0, none⟩ = some (.int .u64 e) ∧ wx.cell? ⟨w.heap.size, 1, none⟩ = some (.int .i64 f) ∧ wx.cell? ⟨w.heap.size, 2, none⟩ = some (.slice PA np pc) ∧ wx.cell? ⟨w.heap.size, 3, none⟩ = some (.slice (some y) ns sc) ∧ wx.cell? ⟨w.heap.size, 4, none⟩ = some (.slice QA nQ qc) ∧ wx.cell? ⟨w.heap.size, 5, none⟩ = some (.slice AA na acp) ∧ wx.cell? ⟨F, 0, none⟩ = some (.int .i64 kz) ∧ wx.cell? ⟨F, 1, none⟩ = some (.int .i64 sz) ∧ wx.cell? ⟨F, 2, none⟩ = some (.int .i64 (i : Int)))) (by kernel_rfl) (HQC.out W4.drew HBD4.out) (fun hS => ?_)
      refine wpAnyH_take (i := 0) (v := ?_) rfl (by kernel_rfl) (by kernel_rfl) (by kernel_rfl) (fun _ _ _ h => h) (Or.inl ⟨by kernel_rfl, ?_⟩) (by assumption) ?_
      rotate_left
      · intro wx hSw
        try dsimp only at hSw
        go_simp <;> with_reducible rfl
      simp only [List.getElem_toArray, List.getElem_cons_zero, List.getElem_cons_succ, Act.put, List.setIfInBounds_toArray, List.set_cons_zero, List.set_cons_succ]
      refine wpAnyH_ready (rs := [1]) (by kernel_rfl) (by simp) ?_
      refine AllReadyH.cons rfl (fun K hK => ?_) AllReadyH.nil
      rw [if_pos (by kernel_rfl)]
      go_simp
      go_at_call 33
      refine (HRI.out _ HBD4.out).mono ?_
      rintro e0 W5 ⟨rfl, hb5⟩
      have HB5 := Lib.hid (HBD4.out.trans (hb5.mono HBD4.out.size))
      clear hb5
      refine hK.out _ _ (HQC.out W5 HB5.out) (fun hS1 => ?_)
      clear hK K
      try simp only [List.getElem_toArray, List.getElem_cons_zero, List.getElem_cons_succ, Act.put, List.setIfInBounds_toArray, List.set_cons_zero, List.set_cons_succ]
      refine wpAnyH_take (i := 2) (v := ?_) rfl (by kernel_rfl) (by kernel_rfl) (by kernel_rfl) (fun _ _ _ h => h) (Or.inl ⟨by kernel_rfl, ?_⟩) (by assumption) ?_
      rotate_left
      · intro wx hSw
        try dsimp only at hSw
        go_simp <;> with_reducible rfl
      simp only [List.getElem_toArray, List.getElem_cons_zero, List.getElem_cons_succ, Act.put, List.setIfInBounds_toArray, List.set_cons_zero, List.set_cons_succ]
      refine wpAnyH_take (i := 3) (v := ?_) rfl (by kernel_rfl) (by kernel_rfl) (by kernel_rfl) (fun _ _ _ h => h) (Or.inl ⟨by kernel_rfl, ?_⟩) (by assumption) ?_
      rotate_left
      · intro wx hSw
        try dsimp only at hSw
        go_simp <;> with_reducible rfl
      simp only [List.getElem_toArray, List.getElem_cons_zero, List.getElem_cons_succ, Act.put, List.setIfInBounds_toArray, List.set_cons_zero, List.set_cons_succ]
      refine wpAnyH_take (i := 4) (v := undef) rfl (by kernel_rfl) (by kernel_rfl) (by kernel_rfl) (fun _ _ _ h => h) (Or.inr ⟨by kernel_rfl, rfl⟩) (by assumption) ?_
      try simp only [List.getElem_toArray, List.getElem_cons_zero, List.getElem_cons_succ, Act.put, List.setIfInBounds_toArray, List.set_cons_zero, List.set_cons_succ]
      refine wpAnyH_take (i := 5) (v := undef) rfl (by kernel_rfl) (by kernel_rfl) (by kernel_rfl) (fun _ _ _ h => h) (Or.inr ⟨by kernel_rfl, rfl⟩) (by assumption) ?_
      try simp only [List.getElem_toArray, List.getElem_cons_zero, List.getElem_cons_succ, Act.put, List.setIfInBounds_toArray, List.set_cons_zero, List.set_cons_succ]
      refine wpAnyH_take (i := 6) (v := undef) rfl (by kernel_rfl) (by kernel_rfl) (by kernel_rfl) (fun _ _ _ h => h) (Or.inr ⟨by kernel_rfl, rfl⟩) (by assumption) ?_
      try simp only [List.getElem_toArray, List.getElem_cons_zero, List.getElem_cons_succ, Act.put, List.setIfInBounds_toArray, List.set_cons_zero, List.set_cons_succ]
      refine wpAnyH_take (i := 7) (v := undef) rfl (by kernel_rfl) (by kernel_rfl) (by kernel_rfl) (fun _ _ _ h => h) (Or.inr ⟨by kernel_rfl, rfl⟩) (by assumption) ?_
      try simp only [List.getElem_toArray, List.getElem_cons_zero, List.getElem_cons_succ, Act.put, List.setIfInBounds_toArray, List.set_cons_zero, List.set_cons_succ]
      refine wpAnyH_take (i := 8) (v := undef) rfl (by kernel_rfl) (by kernel_rfl) (by kernel_rfl) (fun _ _ _ h => h) (Or.inr ⟨by kernel_rfl, rfl⟩) (by assumption) ?_
      try simp only [List.getElem_toArray, List.getElem_cons_zero, List.getElem_cons_succ, Act.put, List.setIfInBounds_toArray, List.set_cons_zero, List.set_cons_succ]
      refine wpAnyH_take (i := 9) (v := undef) rfl (by kernel_rfl) (by kernel_rfl) (by kernel_rfl) (fun _ _ _ h => h) (Or.inr ⟨by kernel_rfl, rfl⟩) (by assumption) ?_
      try simp only [List.getElem_toArray, List.getElem_cons_zero, List.getElem_cons_succ, Act.put, List.setIfInBounds_toArray, List.set_cons_zero, List.set_cons_succ]
      refine wpAnyH_take (i := 10) (v := undef) rfl (by kernel_rfl) (by kernel_rfl) (by kernel_rfl) (fun _ _ _ h => h) (Or.inr ⟨by kernel_rfl, rfl⟩) (by assumption) ?_
      try simp only [List.getElem_toArray, List.getElem_cons_zero, List.getElem_cons_succ, Act.put, List.setIfInBounds_toArray, List.set_cons_zero, List.set_cons_succ]
      refine wpAnyH_take (i := 11) (v := undef) rfl (by kernel_rfl) (by kernel_rfl) (by kernel_rfl) (fun _ _ _ h => h) (Or.inr ⟨by kernel_rfl, rfl⟩) (by assumption) ?_
      try simp only [List.getElem_toArray, List.getElem_cons_zero, List.getElem_cons_succ, Act.put, List.setIfInBounds_toArray, List.set_cons_zero, List.set_cons_succ]
      refine wpAnyH_take (i := 12) (v := undef) rfl (by kernel_rfl) (by kernel_rfl) (by kernel_rfl) (fun _ _ _ h => h) (Or.inr ⟨by kernel_rfl, rfl⟩) (by assumption) ?_
      try simp only [List.getElem_toArray, List.getElem_cons_zero, List.getElem_cons_succ, Act.put, List.setIfInBounds_toArray, List.set_cons_zero, List.set_cons_succ]
      refine wpAnyH_take (i := 13) (v := undef) rfl (by kernel_rfl) (by kernel_rfl) (by kernel_rfl) (fun _ _ _ h => h) (Or.inr ⟨by kernel_rfl, rfl⟩) (by assumption) ?_
      try simp only [List.getElem_toArray, List.getElem_cons_zero, List.getElem_cons_succ, Act.put, List.setIfInBounds_toArray, List.set_cons_zero, List.set_cons_succ]
      refine wpAnyH_take (i := 14) (v := undef) rfl (by kernel_rfl) (by kernel_rfl) (by kernel_rfl) (fun _ _ _ h => h) (Or.inr ⟨by kernel_rfl, rfl⟩) (by assumption) ?_
      try simp only [List.getElem_toArray, List.getElem_cons_zero, List.getElem_cons_succ, Act.put, List.setIfInBounds_toArray, List.set_cons_zero, List.set_cons_succ]
      refine wpAnyH_take (i := 15) (v := undef) rfl (by kernel_rfl) (by kernel_rfl) (by kernel_rfl) (fun _ _ _ h => h) (Or.inr ⟨by kernel_rfl, rfl⟩) (by assumption) ?_
      try simp only [List.getElem_toArray, List.getElem_cons_zero, List.getElem_cons_succ, Act.put, List.setIfInBounds_toArray, List.set_cons_zero, List.set_cons_succ]
      refine wpAnyH_take (i := 16) (v := undef) rfl (by kernel_rfl) (by kernel_rfl) (by kernel_rfl) (fun _ _ _ h => h) (Or.inr ⟨by kernel_rfl, rfl⟩) (by assumption) ?_
      try simp only [List.getElem_toArray, List.getElem_cons_zero, List.getElem_cons_succ, Act.put, List.setIfInBounds_toArray, List.set_cons_zero, List.set_cons_succ]
      refine wpAnyH_take (i := 17) (v := undef) rfl (by kernel_rfl) (by kernel_rfl) (by kernel_rfl) (fun _ _ _ h => h) (Or.inr ⟨by kernel_rfl, rfl⟩) (by assumption) ?_
      try simp only [List.getElem_toArray, List.getElem_cons_zero, List.getElem_cons_succ, Act.put, List.setIfInBounds_toArray, List.set_cons_zero, List.set_cons_succ]
      refine wpAnyH_take (i := 18) (v := undef) rfl (by kernel_rfl) (by kernel_rfl) (by kernel_rfl) (fun _ _ _ h => h) (Or.inr ⟨by kernel_rfl, rfl⟩) (by assumption) ?_
      try simp only [List.getElem_toArray, List.getElem_cons_zero, List.getElem_cons_succ, Act.put, List.setIfInBounds_toArray, List.set_cons_zero, List.set_cons_succ]
      refine wpAnyH_take (i := 19) (v := undef) rfl (by kernel_rfl) (by kernel_rfl) (by kernel_rfl) (fun _ _ _ h => h) (Or.inr ⟨by kernel_rfl, rfl⟩) (by assumption) ?_
      try simp only [List.getElem_toArray, List.getElem_cons_zero, List.getElem_cons_succ, Act.put, List.setIfInBounds_toArray, List.set_cons_zero, List.set_cons_succ]
      refine wpAnyH_take (i := 20) (v := ?_) rfl (by kernel_rfl) (by kernel_rfl) (by kernel_rfl) (fun _ _ _ h => h) (Or.inl ⟨by kernel_rfl, ?_⟩) (by assumption) ?_
      rotate_left
      · intro wx hSw
        try dsimp only at hSw
        go_simp <;> with_reducible rfl
      simp only [List.getElem_toArray, List.getElem_cons_zero, List.getElem_cons_succ, Act.put, List.setIfInBounds_toArray, List.set_cons_zero, List.set_cons_succ]
      refine wpAnyH_done (by kernel_rfl) ?_ _
      have HBW5 := Lib.hid (HB3.out.trans (HB45.out.trans (HB5.out.mono HB45.out.size) |>.mono HB3.out.size))
      go_wp2
      go_ret
      exact ⟨by rw [HTC.out]; rfl, HB0.out.trans (HBW5.out.mono HB0.out.size)⟩
    subst hr0
    by_cases hi : i = 0
    · have tr : (((0 : Nat) : Int) != 0) = false := rfl
      have ti : decide ((0 : Int) < (i : Int)) = false := decide_eq_false (by omega)
      have tin : decide (0 < i) = false := decide_eq_false (by omega)
      have HLP : Hid (lastS (ss.take i) = -1) := by show _ = _; rw [hi]; rfl
      clear hi
      go_wp2_with fail
      clear d0 d1 d2 d3 d4 d5 d6 d7 d8 d9 d10 d11 d12
      refine wp_region_held_drew (S := (fun wx => wx.cell? ⟨Q, 0, none⟩ = some (.int .i64 x.id) ∧ wx.cell? ⟨Q, 1, none⟩ = some (.int .i64 x.fr) ∧ wx.cell? ⟨Q, 2, none⟩ = some (.slice BB x.ws.length cb) ∧ wx.cell? ⟨Q, 3, none⟩ = some (.slice CC x.ns.length cc) ∧ wx.cell? ⟨w.heap.size, 0, none⟩ = some (.int .u64 e) ∧ wx.cell? ⟨w.heap.size, 1, none⟩ = some (.int .i64 f) ∧ wx.cell? ⟨w.heap.size, 2, none⟩ = some (.slice PA np pc) ∧ wx.cell? ⟨w.heap.size, 3, none⟩ = some (.slice (some y) ns sc) ∧ wx.cell? ⟨w.heap.size, 4, none⟩ = some (.slice QA nQ qc) ∧ wx.cell? ⟨w.heap.size, 5, none⟩ = some (.slice AA na acp) ∧ wx.cell? ⟨F, 0, none⟩ = some (.int .i64 kz) ∧ wx.cell? ⟨F, 1, none⟩ = some (.int .i64 sz) ∧ wx.cell? ⟨F, 2, none⟩ = some (.int .i64 (i : Int)))) (by kernel_rfl) (HQC.out W4.drew HBD4.out) (fun hS => ?_)
      refine wpAnyH_take (i := 0) (v := ?_) rfl (by kernel_rfl) (by kernel_rfl) (by kernel_rfl) (fun _ _ _ h => h) (Or.inl ⟨by kernel_rfl, ?_⟩) (by assumption) ?_
      rotate_left
      · intro wx hSw
        try dsimp only at hSw
        go_simp <;> with_reducible rfl
      simp only [List.getElem_toArray, List.getElem_cons_zero, List.getElem_cons_succ, Act.put, List.setIfInBounds_toArray, List.set_cons_zero, List.set_cons_succ]
      refine wpAnyH_ready (rs := [1]) (by kernel_rfl) (by simp) ?_
      refine AllReadyH.cons rfl (fun K hK => ?_) AllReadyH.nil
      rw [if_pos (by kernel_rfl)]
      go_simp
      go_at_call 33
      refine (HRI.out _ HBD4.out).mono ?_
      rintro e0 W5 ⟨rfl, hb5⟩
      have HB5 := Lib.hid (HBD4.out.trans (hb5.mono HBD4.out.size))
      clear hb5
      refine hK.out _ _ (HQC.out W5 HB5.out) (fun hS1 => ?_)
      clear hK K
      try simp only [List.getElem_toArray, List.getElem_cons_zero, List.getElem_cons_succ, Act.put, List.setIfInBounds_toArray, List.set_cons_zero, List.set_cons_succ]
      refine wpAnyH_take (i := 2) (v := ?_) rfl (by kernel_rfl) (by kernel_rfl) (by kernel_rfl) (fun _ _ _ h => h) (Or.inl ⟨by kernel_rfl, ?_⟩) (by assumption) ?_
      rotate_left
      · intro wx hSw
        try dsimp only at hSw
        go_simp <;> with_reducible rfl
      simp only [List.getElem_toArray, List.getElem_cons_zero, List.getElem_cons_succ, Act.put, List.setIfInBounds_toArray, List.set_cons_zero, List.set_cons_succ]
      refine wpAnyH_take (i := 3) (v := ?_) rfl (by kernel_rfl) (by kernel_rfl) (by kernel_rfl) (fun _ _ _ h => h) (Or.inl ⟨by kernel_rfl, ?_⟩) (by assumption) ?_
      rotate_left
      · intro wx hSw
        try dsimp only at hSw
        go_simp <;> with_reducible rfl
      simp only [List.getElem_toArray, List.getElem_cons_zero, List.getElem_cons_succ, Act.put, List.setIfInBounds_toArray, List.set_cons_zero, List.set_cons_succ]
      refine wpAnyH_take (i := 4) (v := ?_) rfl (by kernel_rfl) (by kernel_rfl) (by kernel_rfl) (fun _ _ _ h => h) (Or.inl ⟨by kernel_rfl, ?_⟩) (by assumption) ?_
      rotate_left
      · intro wx hSw
        try dsimp only at hSw
        go_simp <;> with_reducible rfl
      simp only [List.getElem_toArray, List.getElem_cons_zero, List.getElem_cons_succ, Act.put, List.setIfInBounds_toArray, List.set_cons_zero, List.set_cons_succ]
      refine wpAnyH_take (i := 5) (v := ?_) rfl (by kernel_rfl) (by kernel_rfl) (by kernel_rfl) (fun _ _ _ h => h) (Or.inl ⟨by kernel_rfl, ?_⟩) (by assumption) ?_
      rotate_left
      · intro wx hSw
        try dsimp only at hSw
        go_simp <;> with_reducible rfl
      simp only [List.getElem_toArray, List.getElem_cons_zero, List.getElem_cons_succ, Act.put, List.setIfInBounds_toArray, List.set_cons_zero, List.set_cons_succ]
      refine wpAnyH_take (i := 6) (v := ?_) rfl (by kernel_rfl) (by kernel_rfl) (by kernel_rfl) (fun _ _ _ h => h) (Or.inl ⟨by kernel_rfl, ?_⟩) (by assumption) ?_
      rotate_left
      · intro wx hSw
        try dsimp only at hSw
        go_simp <;> with_reducible rfl
      simp only [List.getElem_toArray, List.getElem_cons_zero, List.getElem_cons_succ, Act.put, List.setIfInBounds_toArray, List.set_cons_zero, List.set_cons_succ]
      refine wpAnyH_take (i := 7) (v := ?_) rfl (by kernel_rfl) (by kernel_rfl) (by kernel_rfl) (fun _ _ _ h => h) (Or.inl ⟨by kernel_rfl, ?_⟩) (by assumption) ?_
      rotate_left
      · intro wx hSw
        try dsimp only at hSw
        go_simp <;> with_reducible rfl
      simp only [List.getElem_toArray, List.getElem_cons_zero, List.getElem_cons_succ, Act.put, List.setIfInBounds_toArray, List.set_cons_zero, List.set_cons_succ]
      refine wpAnyH_take (i := 8) (v := undef) rfl (by kernel_rfl) (by kernel_rfl) (by kernel_rfl) (fun _ _ _ h => h) (Or.inr ⟨by kernel_rfl, rfl⟩) (by assumption) ?_
      try simp only [List.getElem_toArray, List.getElem_cons_zero, List.getElem_cons_succ, Act.put, List.setIfInBounds_toArray, List.set_cons_zero, List.set_cons_succ]
      refine wpAnyH_take (i := 9) (v := undef) rfl (by kernel_rfl) (by kernel_rfl) (by kernel_rfl) (fun _ _ _ h => h) (Or.inr ⟨by kernel_rfl, rfl⟩) (by assumption) ?_
      try simp only [List.getElem_toArray, List.getElem_cons_zero, List.getElem_cons_succ, Act.put, List.setIfInBounds_toArray, List.set_cons_zero, List.set_cons_succ]
      refine wpAnyH_take (i := 10) (v := undef) rfl (by kernel_rfl) (by kernel_rfl) (by kernel_rfl) (fun _ _ _ h => h) (Or.inr ⟨by kernel_rfl, rfl⟩) (by assumption) ?_
      try simp only [List.getElem_toArray, List.getElem_cons_zero, List.getElem_cons_succ, Act.put, List.setIfInBounds_toArray, List.set_cons_zero, List.set_cons_succ]
      refine wpAnyH_take (i := 11) (v := undef) rfl (by kernel_rfl) (by kernel_rfl) (by kernel_rfl) (fun _ _ _ h => h) (Or.inr ⟨by kernel_rfl, rfl⟩) (by assumption) ?_
      try simp only [List.getElem_toArray, List.getElem_cons_zero, List.getElem_cons_succ, Act.put, List.setIfInBounds_toArray, List.set_cons_zero, List.set_cons_succ]
      refine wpAnyH_take (i := 12) (v := undef) rfl (by kernel_rfl) (by kernel_rfl) (by kernel_rfl) (fun _ _ _ h => h) (Or.inr ⟨by kernel_rfl, rfl⟩) (by assumption) ?_
      try simp only [List.getElem_toArray, List.getElem_cons_zero, List.getElem_cons_succ, Act.put, List.setIfInBounds_toArray, List.set_cons_zero, List.set_cons_succ]
      refine wpAnyH_take (i := 13) (v := undef) rfl (by kernel_rfl) (by kernel_rfl) (by kernel_rfl) (fun _ _ _ h => h) (Or.inr ⟨by kernel_rfl, rfl⟩) (by assumption) ?_
      try simp only [List.getElem_toArray, List.getElem_cons_zero, List.getElem_cons_succ, Act.put, List.setIfInBounds_toArray, List.set_cons_zero, List.set_cons_succ]
      refine wpAnyH_take (i := 14) (v := undef) rfl (by kernel_rfl) (by kernel_rfl) (by kernel_rfl) (fun _ _ _ h => h) (Or.inr ⟨by kernel_rfl, rfl⟩) (by assumption) ?_
      try simp only [List.getElem_toArray, List.getElem_cons_zero, List.getElem_cons_succ, Act.put, List.setIfInBounds_toArray, List.set_cons_zero, List.set_cons_succ]
      refine wpAnyH_take (i := 15) (v := undef) rfl (by kernel_rfl) (by kernel_rfl) (by kernel_rfl) (fun _ _ _ h => h) (Or.inr ⟨by kernel_rfl, rfl⟩) (by assumption) ?_
      try simp only [List.getElem_toArray, List.getElem_cons_zero, List.getElem_cons_succ, Act.put, List.setIfInBounds_toArray, List.set_cons_zero, List.set_cons_succ]
      refine wpAnyH_take (i := 16) (v := undef) rfl (by kernel_rfl) (by kernel_rfl) (by kernel_rfl) (fun _ _ _ h => h) (Or.inr ⟨by kernel_rfl, rfl⟩) (by assumption) ?_
      try simp only [List.getElem_toArray, List.getElem_cons_zero, List.getElem_cons_succ, Act.put, List.setIfInBounds_toArray, List.set_cons_zero, List.set_cons_succ]
      refine wpAnyH_take (i := 17) (v := undef) rfl (by kernel_rfl) (by kernel_rfl) (by kernel_rfl) (fun _ _ _ h => h) (Or.inr ⟨by kernel_rfl, rfl⟩) (by assumption) ?_
      try simp only [List.getElem_toArray, List.getElem_cons_zero, List.getElem_cons_succ, Act.put, List.setIfInBounds_toArray, List.set_cons_zero, List.set_cons_succ]
      refine wpAnyH_take (i := 18) (v := undef) rfl (by kernel_rfl) (by kernel_rfl) (by kernel_rfl) (fun _ _ _ h => h) (Or.inr ⟨by kernel_rfl, rfl⟩) (by assumption) ?_
      try simp only [List.getElem_toArray, List.getElem_cons_zero, List.getElem_cons_succ, Act.put, List.setIfInBounds_toArray, List.set_cons_zero, List.set_cons_succ]
      refine wpAnyH_take (i := 19) (v := ?_) rfl (by kernel_rfl) (by kernel_rfl) (by kernel_rfl) (fun _ _ _ h => h) (Or.inl ⟨by kernel_rfl, ?_⟩) (by assumption) ?_
      rotate_left
      · intro wx hSw
        try dsimp only at hSw
        go_simp <;> with_reducible rfl
      simp only [List.getElem_toArray, List.getElem_cons_zero, List.getElem_cons_succ, Act.put, List.setIfInBounds_toArray, List.set_cons_zero, List.set_cons_succ]
      refine wpAnyH_take (i := 20) (v := ?_) rfl (by kernel_rfl) (by kernel_rfl) (by kernel_rfl) (fun _ _ _ h => h) (Or.inl ⟨by kernel_rfl, ?_⟩) (by assumption) ?_
      rotate_left
      · intro wx hSw
        try dsimp only at hSw
        go_simp <;> with_reducible rfl
      simp only [List.getElem_toArray, List.getElem_cons_zero, List.getElem_cons_succ, Act.put, List.setIfInBounds_toArray, List.set_cons_zero, List.set_cons_succ]
      refine wpAnyH_done (by kernel_rfl) ?_ _
      have HBW5 := Lib.hid (HB3.out.trans (HB45.out.trans (HB5.out.mono HB45.out.size) |>.mono HB3.out.size))
      go_wp2
      obtain ⟨hi1, hi2, hi3, hi4, hi5, hi6⟩ := rgS_in HRK.out
      obtain ⟨fn, hfn⟩ : ∃ n : Nat, x.fr = (n : Int) := ⟨x.fr.toNat, by omega⟩
      have hnum : ∀ y ∈ x.ws, Num y := fun y hy => (num_of (hi4 y hy)).1
      have hnns : ∀ y ∈ x.ns, Num y := fun y hy => (num_of (hi6 y hy)).1
      have hwl := HWL.out
      have hids : (ps.map PT.id).length ≤ 1099511627776 := by rw [List.length_map, HM.out.pl]; have := HP.out; omega
      have HBC := Lib.hid (HBA.out.kept HB5.out)
      have HCC := Lib.hid (HCA.out.kept HB5.out)
      have HQ5 : Hid (∀ wx, Below W5.heap.size W5 wx → wx.cell? ⟨Q, 0, none⟩ = some (.int .i64 x.id) ∧ wx.cell? ⟨Q, 1, none⟩ = some (.int .i64 x.fr) ∧ wx.cell? ⟨Q, 2, none⟩ = some (.slice BB x.ws.length cb) ∧ wx.cell? ⟨Q, 3, none⟩ = some (.slice CC x.ns.length cc) ∧ wx.cell? ⟨w.heap.size, 0, none⟩ = some (.int .u64 e) ∧ wx.cell? ⟨w.heap.size, 1, none⟩ = some (.int .i64 f) ∧ wx.cell? ⟨w.heap.size, 2, none⟩ = some (.slice PA np pc) ∧ wx.cell? ⟨w.heap.size, 3, none⟩ = some (.slice (some y) ns sc) ∧ wx.cell? ⟨w.heap.size, 4, none⟩ = some (.slice QA nQ qc) ∧ wx.cell? ⟨w.heap.size, 5, none⟩ = some (.slice AA na acp) ∧ wx.cell? ⟨F, 0, none⟩ = some (.int .i64 kz) ∧ wx.cell? ⟨F, 1, none⟩ = some (.int .i64 sz) ∧ wx.cell? ⟨F, 2, none⟩ = some (.int .i64 (i : Int))) := fun wx b => HQC.out wx (HB5.out.trans (b.mono HB5.out.size))
      have HPA : Hid (∀ W, Below W5.heap.size W5 W → Calls Tryz.prog 13 #[.agg #[.int .u64 e, .int .i64 f, .slice PA np pc, .slice (some y) ns sc, .slice QA nQ qc, .slice AA na acp]] W fun e w' => ∃ A c, e = .returned (.slice A np c) ∧ IntsBelow w'.heap.size w' (.slice A np c) (ps.map PT.id) ∧ Below W.heap.size W w') := fun W b => (by
        have hbw := HB0.out.trans ((HBW5.out.trans (b.mono HBW5.out.size)).mono HB0.out.size)
        exact pids_any (HMM.out.kept hbw) HP.out (HM.out.kept hbw))
      have HCK : Hid (∀ (W : World) (I : Option Addr) (ci : Nat), Below W5.heap.size W5 W → IntsBelow W.heap.size W (.slice I np ci) (ps.map PT.id) → Calls Tryz.prog 34 #[.agg #[.int .i64 x.id, .int .i64 x.fr, .slice BB x.ws.length cb, .slice CC x.ns.length cc], .slice I np ci] W fun e w' => e = .returned (.tuple #[.int .i64 (chkW (ps.map PT.id) x.fr ⟨0, 0, 0⟩ 0 x.ws).2, .int .i64 (chkW (ps.map PT.id) x.fr ⟨0, 0, 0⟩ 0 x.ws).1]) ∧ Below W.heap.size W w') := fun W I ci b hI => rcheck_any x.id x.fr BB cb x.ws CC x.ns.length cc I np ci (ps.map PT.id) W hI (HBC.out.kept b) HWX.out.2.1 ⟨by omega, by omega⟩ (by omega) hids
      have HNC : Hid (∀ (W : World) (I : Option Addr) (ci : Nat), Below W5.heap.size W5 W → IntsBelow W.heap.size W (.slice I np ci) (ps.map PT.id) → Calls Tryz.prog 35 #[.agg #[.int .i64 x.id, .int .i64 x.fr, .slice BB x.ws.length cb, .slice CC x.ns.length cc], .slice I np ci] W fun e w' => e = .returned (.tuple #[.int .i64 (chkN (ps.map PT.id) (ticksL (ownT (fn : Int) x.ws) 0 fn) fn ⟨0, 0, 0⟩ 0 x.ns).2, .int .i64 (chkN (ps.map PT.id) (ticksL (ownT (fn : Int) x.ws) 0 fn) fn ⟨0, 0, 0⟩ 0 x.ns).1]) ∧ Below W.heap.size W w') := fun W I ci b hI => (by
        rw [hfn]
        exact rncheck_any x.id BB x.ws.length cb x.ns CC cc I np ci (ps.map PT.id) (ticksL (ownT (fn : Int) x.ws) 0 fn) fn W hI (HCC.out.kept b) hnns hwl.2 hids (fun W' b' => rword_any x.id fn BB cb x.ws CC x.ns.length cc W' ((HBC.out.kept b).kept b') hnum (by omega) (by omega)) (ticks_len _ _ _) (by omega) (by omega))
      have HO : Hid (oneS (ps.map PT.id) (lastS (ss.take i)) x = if (chkW (ps.map PT.id) x.fr ⟨0, 0, 0⟩ 0 x.ws).1 = 0 then (if (chkN (ps.map PT.id) (ticksL (ownT (fn : Int) x.ws) 0 fn) fn ⟨0, 0, 0⟩ 0 x.ns).1 = 0 then (0, []) else ((chkN (ps.map PT.id) (ticksL (ownT (fn : Int) x.ws) 0 fn) fn ⟨0, 0, 0⟩ 0 x.ns).1, [(false, (chkN (ps.map PT.id) (ticksL (ownT (fn : Int) x.ws) 0 fn) fn ⟨0, 0, 0⟩ 0 x.ns).2)])) else ((chkW (ps.map PT.id) x.fr ⟨0, 0, 0⟩ 0 x.ws).1, [(false, (chkW (ps.map PT.id) x.fr ⟨0, 0, 0⟩ 0 x.ws).2)])) := by
        show _ = _
        unfold oneS
        rw [HRK.out, if_pos rfl, if_neg (by rw [HLP.out]; have := rgS_id HRK.out; omega)]
        unfold w1S
        rw [hfn, Int.toNat_natCast]
        by_cases h1 : (chkW (ps.map PT.id) (fn : Int) ⟨0, 0, 0⟩ 0 x.ws).1 = 0
        · rw [if_pos h1, if_pos h1]
        · rw [if_neg h1, if_neg h1, if_neg h1]
      obtain ⟨q, hq⟩ : ∃ q, chkW (ps.map PT.id) x.fr ⟨0, 0, 0⟩ 0 x.ws = q := ⟨_, rfl⟩
      obtain ⟨q2, hq2⟩ : ∃ q, chkN (ps.map PT.id) (ticksL (ownT (fn : Int) x.ws) 0 fn) fn ⟨0, 0, 0⟩ 0 x.ns = q := ⟨_, rfl⟩
      rw [hq] at HCK HO
      rw [hq2] at HNC HO
      obtain ⟨k1, a1⟩ := q
      obtain ⟨k2, a2⟩ := q2
      dsimp only at HO HCK HNC
      clear hi1 hi2 hi3 hi4 hi5 hi6 hfn hnum hnns hwl hids hq hq2
      obtain ⟨d0, d1, d2, d3, d4, d5, d6, d7, d8, d9, d10, d11, d12⟩ := HQ5.out W5 (Below.refl _ _)
      go_wp2_with fail
      have hbd : Below W5.heap.size W5 W5.drew := below_refl_drew W5
      have HBD0 := Lib.hid hbd
      clear hbd
      go_region_held3 (fun wx => wx.cell? ⟨Q, 0, none⟩ = some (.int .i64 x.id) ∧ wx.cell? ⟨Q, 1, none⟩ = some (.int .i64 x.fr) ∧ wx.cell? ⟨Q, 2, none⟩ = some (.slice BB x.ws.length cb) ∧ wx.cell? ⟨Q, 3, none⟩ = some (.slice CC x.ns.length cc) ∧ wx.cell? ⟨w.heap.size, 0, none⟩ = some (.int .u64 e) ∧ wx.cell? ⟨w.heap.size, 1, none⟩ = some (.int .i64 f) ∧ wx.cell? ⟨w.heap.size, 2, none⟩ = some (.slice PA np pc) ∧ wx.cell? ⟨w.heap.size, 3, none⟩ = some (.slice (some y) ns sc) ∧ wx.cell? ⟨w.heap.size, 4, none⟩ = some (.slice QA nQ qc) ∧ wx.cell? ⟨w.heap.size, 5, none⟩ = some (.slice AA na acp) ∧ wx.cell? ⟨F, 0, none⟩ = some (.int .i64 kz) ∧ wx.cell? ⟨F, 1, none⟩ = some (.int .i64 sz) ∧ wx.cell? ⟨F, 2, none⟩ = some (.int .i64 (i : Int)))
        (first | (refine ⟨?_, ?_, ?_, ?_, ?_, ?_, ?_, ?_, ?_, ?_, ?_, ?_, ?_⟩ <;> assumption) | (go_keep; done))
        (first
          | (go_at_call 13; refine (HPA.out _ HBD0.out).mono ?_; rintro e0 W6 ⟨A6, c6, rfl, hi6, hb6⟩; have HB6 := Lib.hid (HBD0.out.trans (hb6.mono HBD0.out.size)); have HCK6 := Lib.hid (HCK.out W6 _ _ HB6.out hi6); obtain ⟨f0, f1, f2, f3, f4, f5, f6, f7, f8, f9, f10, f11, f12⟩ := HQ5.out _ HB6.out; clear hi6 hb6)
          | (go_at_call 34; refine HCK6.out.mono ?_; rintro e0 W7 ⟨rfl, hb7⟩; have HB7 := Lib.hid (HB6.out.trans (hb7.mono HB6.out.size)); obtain ⟨g0, g1, g2, g3, g4, g5, g6, g7, g8, g9, g10, g11, g12⟩ := HQ5.out _ HB7.out; clear hb7))
      have HBW7 := Lib.hid (HBW5.out.trans (HB7.out.mono HBW5.out.size))
      clear d0 d1 d2 d3 d4 d5 d6 d7 d8 d9 d10 d11 d12 f0 f1 f2 f3 f4 f5 f6 f7 f8 f9 f10 f11 f12 HCK HCK6
      by_cases hk1 : k1 = 0
      rotate_left
      · have HTC : Hid (a1 = innK tq) := by show _ = _; rw [HTQ.out, HO.out, if_neg hk1]; rfl
        have t2 : ((k1 : Int) != 0) = true := by simp [hk1]
        clear hk1 HNC HPA
        go_wp2
        go_ret
        exact ⟨by rw [HTC.out]; rfl, HB0.out.trans (HBW7.out.mono HB0.out.size)⟩
      subst hk1
      have HO2 : Hid (oneS (ps.map PT.id) (lastS (ss.take i)) x = if k2 = 0 then (0, []) else (k2, [(false, a2)])) := by show _ = _; rw [HO.out, if_pos rfl]
      have hk2 : k2 ≠ 0 := fun h => HONE.out (by rw [HO2.out, if_pos h])
      clear HO
      go_wp2_with fail
      have hbd7 : Below W5.heap.size W5 W7.drew := HB7.out.trans (((below_refl_drew W7)).mono HB7.out.size)
      have HBD7 := Lib.hid hbd7
      have HK2 : Hid (k2 ≠ 0) := hk2
      clear hbd7 hk2
      go_region_held3 (fun wx => wx.cell? ⟨Q, 0, none⟩ = some (.int .i64 x.id) ∧ wx.cell? ⟨Q, 1, none⟩ = some (.int .i64 x.fr) ∧ wx.cell? ⟨Q, 2, none⟩ = some (.slice BB x.ws.length cb) ∧ wx.cell? ⟨Q, 3, none⟩ = some (.slice CC x.ns.length cc) ∧ wx.cell? ⟨w.heap.size, 0, none⟩ = some (.int .u64 e) ∧ wx.cell? ⟨w.heap.size, 1, none⟩ = some (.int .i64 f) ∧ wx.cell? ⟨w.heap.size, 2, none⟩ = some (.slice PA np pc) ∧ wx.cell? ⟨w.heap.size, 3, none⟩ = some (.slice (some y) ns sc) ∧ wx.cell? ⟨w.heap.size, 4, none⟩ = some (.slice QA nQ qc) ∧ wx.cell? ⟨w.heap.size, 5, none⟩ = some (.slice AA na acp) ∧ wx.cell? ⟨F, 0, none⟩ = some (.int .i64 kz) ∧ wx.cell? ⟨F, 1, none⟩ = some (.int .i64 sz) ∧ wx.cell? ⟨F, 2, none⟩ = some (.int .i64 (i : Int)))
        (first | (refine ⟨?_, ?_, ?_, ?_, ?_, ?_, ?_, ?_, ?_, ?_, ?_, ?_, ?_⟩ <;> assumption) | (go_keep; done))
        (first
          | (go_at_call 13; refine (HPA.out _ HBD7.out).mono ?_; rintro e0 W6 ⟨A6, c6, rfl, hi6, hb6⟩; have HB8 := Lib.hid (HBD7.out.trans (hb6.mono HBD7.out.size)); have HCK6 := Lib.hid (HNC.out W6 _ _ HB8.out hi6); obtain ⟨f0, f1, f2, f3, f4, f5, f6, f7, f8, f9, f10, f11, f12⟩ := HQ5.out _ HB8.out; clear hi6 hb6)
          | (go_at_call 35; refine HCK6.out.mono ?_; rintro e0 W9 ⟨rfl, hb9⟩; have HB9 := Lib.hid (HB8.out.trans (hb9.mono HB8.out.size)); obtain ⟨j0, j1, j2, j3, j4, j5, j6, j7, j8, j9, j10, j11, j12⟩ := HQ5.out _ HB9.out; clear hb9))
      have HBW9 := Lib.hid (HBW5.out.trans (HB9.out.mono HBW5.out.size))
      clear g0 g1 g2 g3 g4 g5 g6 g7 g8 g9 g10 g11 g12 f0 f1 f2 f3 f4 f5 f6 f7 f8 f9 f10 f11 f12 j0 j1 j2 j3 j4 j5 j6 j7 j8 j9 j10 j11 j12 HCK6 HNC HPA
      have HTC : Hid (a2 = innK tq) := by show _ = _; rw [HTQ.out, HO2.out, if_neg HK2.out]; rfl
      have t2 : ((k2 : Int) != 0) = true := by have := HK2.out; simp [this]
      go_wp2
      go_ret
      exact ⟨by rw [HTC.out]; rfl, HB0.out.trans (HBW9.out.mono HB0.out.size)⟩
    obtain ⟨m1, hm1⟩ : ∃ m, i = m + 1 := ⟨i - 1, by omega⟩
    obtain ⟨yy, hyy⟩ : ∃ yy, ss[m1]? = some yy := ⟨_, List.getElem?_eq_getElem (by rw [HM.out.sl]; have := HIN.out; omega)⟩
    have HYC : Hid (∀ wx, Below W4.heap.size W4 wx → wx.cell? (y.add (m1 * 4)) = some (.int .i64 yy.id)) := fun wx b => by
      obtain ⟨y', BZ, bz, CZ, cz, hy', f1, -⟩ := (HM.out.kept (HB0.out.trans ((HB3.out.trans ((HB45.out.trans (b.mono HB45.out.size)).mono HB3.out.size)).mono HB0.out.size))).s m1 yy hyy
      obtain rfl := Option.some.inj hy'
      exact f1
    have HLP : Hid (lastS (ss.take i) = yy.id) := by show _ = _; rw [hm1, List.take_add_one, hyy]; exact lastS_snoc _ _
    have hwk : IntKind.i64.wrap ((i : Int) - 1) = (m1 : Int) := by rw [show (i : Int) - 1 = (m1 : Int) by omega]; exact IntWalk.i64_in _ (by have := HSN.out; omega)
    have g0 : (0 : Int) ≤ m1 := by omega
    have g1 : (m1 : Int) < ns := by omega
    have tr : (((0 : Nat) : Int) != 0) = false := rfl
    have ti : decide ((0 : Int) < (i : Int)) = true := decide_eq_true (by omega)
    have tin : decide (0 < i) = true := decide_eq_true (by omega)
    have yc := HYC.out W4 (Below.refl _ _)
    have HM1 := Lib.hid hm1
    clear hi hyy hm1
    by_cases hle : x.id ≤ yy.id
    · have tl : decide (x.id ≤ yy.id) = true := decide_eq_true hle
      have HTC : Hid (-1 = innK tq) := by
        show _ = _
        have h1 : (oneS (ps.map PT.id) (lastS (ss.take i)) x).2 = [] := by unfold oneS; rw [HRK.out, if_pos rfl, HLP.out, if_pos hle]
        rw [HTQ.out, h1]
        rfl
      clear hle
      go_wp2_with fail
      go_region_held3 (fun wx => wx.cell? ⟨Q, 0, none⟩ = some (.int .i64 x.id) ∧ wx.cell? ⟨Q, 1, none⟩ = some (.int .i64 x.fr) ∧ wx.cell? ⟨Q, 2, none⟩ = some (.slice BB x.ws.length cb) ∧ wx.cell? ⟨Q, 3, none⟩ = some (.slice CC x.ns.length cc) ∧ wx.cell? ⟨w.heap.size, 0, none⟩ = some (.int .u64 e) ∧ wx.cell? ⟨w.heap.size, 1, none⟩ = some (.int .i64 f) ∧ wx.cell? ⟨w.heap.size, 2, none⟩ = some (.slice PA np pc) ∧ wx.cell? ⟨w.heap.size, 3, none⟩ = some (.slice (some y) ns sc) ∧ wx.cell? ⟨w.heap.size, 4, none⟩ = some (.slice QA nQ qc) ∧ wx.cell? ⟨w.heap.size, 5, none⟩ = some (.slice AA na acp) ∧ wx.cell? ⟨F, 0, none⟩ = some (.int .i64 kz) ∧ wx.cell? ⟨F, 1, none⟩ = some (.int .i64 sz) ∧ wx.cell? ⟨F, 2, none⟩ = some (.int .i64 (i : Int)) ∧ wx.cell? (y.add (m1 * 4)) = some (.int .i64 yy.id))
        (first | (refine ⟨?_, ?_, ?_, ?_, ?_, ?_, ?_, ?_, ?_, ?_, ?_, ?_, ?_, ?_⟩ <;> assumption) | (go_keep; done))
        (first
          | (go_at_call 33; refine (HRI.out _ HBD4.out).mono ?_; rintro e0 W5 ⟨rfl, hb5⟩; have HB5 := Lib.hid (HBD4.out.trans (hb5.mono HBD4.out.size)); obtain ⟨f0, f1, f2, f3, f4, f5, f6, f7, f8, f9, f10, f11, f12⟩ := HQC.out _ HB5.out; have yc5 := HYC.out _ HB5.out; clear hb5))
      have HBW5 := Lib.hid (HB3.out.trans (HB45.out.trans (HB5.out.mono HB45.out.size) |>.mono HB3.out.size))
      go_wp2
      go_ret
      exact ⟨by rw [HTC.out]; rfl, HB0.out.trans (HBW5.out.mono HB0.out.size)⟩
    have tl : decide (x.id ≤ yy.id) = false := decide_eq_false hle
    have HLE : Hid (yy.id < x.id) := by show _ < _; omega
    clear hle
    go_wp2_with fail
    go_region_held3 (fun wx => wx.cell? ⟨Q, 0, none⟩ = some (.int .i64 x.id) ∧ wx.cell? ⟨Q, 1, none⟩ = some (.int .i64 x.fr) ∧ wx.cell? ⟨Q, 2, none⟩ = some (.slice BB x.ws.length cb) ∧ wx.cell? ⟨Q, 3, none⟩ = some (.slice CC x.ns.length cc) ∧ wx.cell? ⟨w.heap.size, 0, none⟩ = some (.int .u64 e) ∧ wx.cell? ⟨w.heap.size, 1, none⟩ = some (.int .i64 f) ∧ wx.cell? ⟨w.heap.size, 2, none⟩ = some (.slice PA np pc) ∧ wx.cell? ⟨w.heap.size, 3, none⟩ = some (.slice (some y) ns sc) ∧ wx.cell? ⟨w.heap.size, 4, none⟩ = some (.slice QA nQ qc) ∧ wx.cell? ⟨w.heap.size, 5, none⟩ = some (.slice AA na acp) ∧ wx.cell? ⟨F, 0, none⟩ = some (.int .i64 kz) ∧ wx.cell? ⟨F, 1, none⟩ = some (.int .i64 sz) ∧ wx.cell? ⟨F, 2, none⟩ = some (.int .i64 (i : Int)) ∧ wx.cell? (y.add (m1 * 4)) = some (.int .i64 yy.id))
      (first | (refine ⟨?_, ?_, ?_, ?_, ?_, ?_, ?_, ?_, ?_, ?_, ?_, ?_, ?_, ?_⟩ <;> assumption) | (go_keep; done))
      (first
        | (go_at_call 33; refine (HRI.out _ HBD4.out).mono ?_; rintro e0 W5 ⟨rfl, hb5⟩; have HB5 := Lib.hid (HBD4.out.trans (hb5.mono HBD4.out.size)); obtain ⟨f0, f1, f2, f3, f4, f5, f6, f7, f8, f9, f10, f11, f12⟩ := HQC.out _ HB5.out; have yc5 := HYC.out _ HB5.out; clear hb5))
    have HBW5 := Lib.hid (HB3.out.trans (HB45.out.trans (HB5.out.mono HB45.out.size) |>.mono HB3.out.size))
    clear d0 d1 d2 d3 d4 d5 d6 d7 d8 d9 d10 d11 d12 f0 f1 f2 f3 f4 f5 f6 f7 f8 f9 f10 f11 f12 yc yc5
    go_wp2
    obtain ⟨hi1, hi2, hi3, hi4, hi5, hi6⟩ := rgS_in HRK.out
    obtain ⟨fn, hfn⟩ : ∃ n : Nat, x.fr = (n : Int) := ⟨x.fr.toNat, by omega⟩
    have hnum : ∀ y ∈ x.ws, Num y := fun y hy => (num_of (hi4 y hy)).1
    have hnns : ∀ y ∈ x.ns, Num y := fun y hy => (num_of (hi6 y hy)).1
    have hwl := HWL.out
    have hids : (ps.map PT.id).length ≤ 1099511627776 := by rw [List.length_map, HM.out.pl]; have := HP.out; omega
    have HBC := Lib.hid (HBA.out.kept HB5.out)
    have HCC := Lib.hid (HCA.out.kept HB5.out)
    have HQ5 : Hid (∀ wx, Below W5.heap.size W5 wx → wx.cell? ⟨Q, 0, none⟩ = some (.int .i64 x.id) ∧ wx.cell? ⟨Q, 1, none⟩ = some (.int .i64 x.fr) ∧ wx.cell? ⟨Q, 2, none⟩ = some (.slice BB x.ws.length cb) ∧ wx.cell? ⟨Q, 3, none⟩ = some (.slice CC x.ns.length cc) ∧ wx.cell? ⟨w.heap.size, 0, none⟩ = some (.int .u64 e) ∧ wx.cell? ⟨w.heap.size, 1, none⟩ = some (.int .i64 f) ∧ wx.cell? ⟨w.heap.size, 2, none⟩ = some (.slice PA np pc) ∧ wx.cell? ⟨w.heap.size, 3, none⟩ = some (.slice (some y) ns sc) ∧ wx.cell? ⟨w.heap.size, 4, none⟩ = some (.slice QA nQ qc) ∧ wx.cell? ⟨w.heap.size, 5, none⟩ = some (.slice AA na acp) ∧ wx.cell? ⟨F, 0, none⟩ = some (.int .i64 kz) ∧ wx.cell? ⟨F, 1, none⟩ = some (.int .i64 sz) ∧ wx.cell? ⟨F, 2, none⟩ = some (.int .i64 (i : Int))) := fun wx b => HQC.out wx (HB5.out.trans (b.mono HB5.out.size))
    have HPA : Hid (∀ W, Below W5.heap.size W5 W → Calls Tryz.prog 13 #[.agg #[.int .u64 e, .int .i64 f, .slice PA np pc, .slice (some y) ns sc, .slice QA nQ qc, .slice AA na acp]] W fun e w' => ∃ A c, e = .returned (.slice A np c) ∧ IntsBelow w'.heap.size w' (.slice A np c) (ps.map PT.id) ∧ Below W.heap.size W w') := fun W b => (by
      have hbw := HB0.out.trans ((HBW5.out.trans (b.mono HBW5.out.size)).mono HB0.out.size)
      exact pids_any (HMM.out.kept hbw) HP.out (HM.out.kept hbw))
    have HCK : Hid (∀ (W : World) (I : Option Addr) (ci : Nat), Below W5.heap.size W5 W → IntsBelow W.heap.size W (.slice I np ci) (ps.map PT.id) → Calls Tryz.prog 34 #[.agg #[.int .i64 x.id, .int .i64 x.fr, .slice BB x.ws.length cb, .slice CC x.ns.length cc], .slice I np ci] W fun e w' => e = .returned (.tuple #[.int .i64 (chkW (ps.map PT.id) x.fr ⟨0, 0, 0⟩ 0 x.ws).2, .int .i64 (chkW (ps.map PT.id) x.fr ⟨0, 0, 0⟩ 0 x.ws).1]) ∧ Below W.heap.size W w') := fun W I ci b hI => rcheck_any x.id x.fr BB cb x.ws CC x.ns.length cc I np ci (ps.map PT.id) W hI (HBC.out.kept b) HWX.out.2.1 ⟨by omega, by omega⟩ (by omega) hids
    have HNC : Hid (∀ (W : World) (I : Option Addr) (ci : Nat), Below W5.heap.size W5 W → IntsBelow W.heap.size W (.slice I np ci) (ps.map PT.id) → Calls Tryz.prog 35 #[.agg #[.int .i64 x.id, .int .i64 x.fr, .slice BB x.ws.length cb, .slice CC x.ns.length cc], .slice I np ci] W fun e w' => e = .returned (.tuple #[.int .i64 (chkN (ps.map PT.id) (ticksL (ownT (fn : Int) x.ws) 0 fn) fn ⟨0, 0, 0⟩ 0 x.ns).2, .int .i64 (chkN (ps.map PT.id) (ticksL (ownT (fn : Int) x.ws) 0 fn) fn ⟨0, 0, 0⟩ 0 x.ns).1]) ∧ Below W.heap.size W w') := fun W I ci b hI => (by
      rw [hfn]
      exact rncheck_any x.id BB x.ws.length cb x.ns CC cc I np ci (ps.map PT.id) (ticksL (ownT (fn : Int) x.ws) 0 fn) fn W hI (HCC.out.kept b) hnns hwl.2 hids (fun W' b' => rword_any x.id fn BB cb x.ws CC x.ns.length cc W' ((HBC.out.kept b).kept b') hnum (by omega) (by omega)) (ticks_len _ _ _) (by omega) (by omega))
    have HO : Hid (oneS (ps.map PT.id) (lastS (ss.take i)) x = if (chkW (ps.map PT.id) x.fr ⟨0, 0, 0⟩ 0 x.ws).1 = 0 then (if (chkN (ps.map PT.id) (ticksL (ownT (fn : Int) x.ws) 0 fn) fn ⟨0, 0, 0⟩ 0 x.ns).1 = 0 then (0, []) else ((chkN (ps.map PT.id) (ticksL (ownT (fn : Int) x.ws) 0 fn) fn ⟨0, 0, 0⟩ 0 x.ns).1, [(false, (chkN (ps.map PT.id) (ticksL (ownT (fn : Int) x.ws) 0 fn) fn ⟨0, 0, 0⟩ 0 x.ns).2)])) else ((chkW (ps.map PT.id) x.fr ⟨0, 0, 0⟩ 0 x.ws).1, [(false, (chkW (ps.map PT.id) x.fr ⟨0, 0, 0⟩ 0 x.ws).2)])) := by
      show _ = _
      unfold oneS
      rw [HRK.out, if_pos rfl, if_neg (by rw [HLP.out]; have := HLE.out; omega)]
      unfold w1S
      rw [hfn, Int.toNat_natCast]
      by_cases h1 : (chkW (ps.map PT.id) (fn : Int) ⟨0, 0, 0⟩ 0 x.ws).1 = 0
      · rw [if_pos h1, if_pos h1]
      · rw [if_neg h1, if_neg h1, if_neg h1]
    obtain ⟨q, hq⟩ : ∃ q, chkW (ps.map PT.id) x.fr ⟨0, 0, 0⟩ 0 x.ws = q := ⟨_, rfl⟩
    obtain ⟨q2, hq2⟩ : ∃ q, chkN (ps.map PT.id) (ticksL (ownT (fn : Int) x.ws) 0 fn) fn ⟨0, 0, 0⟩ 0 x.ns = q := ⟨_, rfl⟩
    rw [hq] at HCK HO
    rw [hq2] at HNC HO
    obtain ⟨k1, a1⟩ := q
    obtain ⟨k2, a2⟩ := q2
    dsimp only at HO HCK HNC
    clear hi1 hi2 hi3 hi4 hi5 hi6 hfn hnum hnns hwl hids hq hq2
    obtain ⟨d0, d1, d2, d3, d4, d5, d6, d7, d8, d9, d10, d11, d12⟩ := HQ5.out W5 (Below.refl _ _)
    go_wp2_with fail
    have hbd : Below W5.heap.size W5 W5.drew := below_refl_drew W5
    have HBD0 := Lib.hid hbd
    clear hbd
    go_region_held3 (fun wx => wx.cell? ⟨Q, 0, none⟩ = some (.int .i64 x.id) ∧ wx.cell? ⟨Q, 1, none⟩ = some (.int .i64 x.fr) ∧ wx.cell? ⟨Q, 2, none⟩ = some (.slice BB x.ws.length cb) ∧ wx.cell? ⟨Q, 3, none⟩ = some (.slice CC x.ns.length cc) ∧ wx.cell? ⟨w.heap.size, 0, none⟩ = some (.int .u64 e) ∧ wx.cell? ⟨w.heap.size, 1, none⟩ = some (.int .i64 f) ∧ wx.cell? ⟨w.heap.size, 2, none⟩ = some (.slice PA np pc) ∧ wx.cell? ⟨w.heap.size, 3, none⟩ = some (.slice (some y) ns sc) ∧ wx.cell? ⟨w.heap.size, 4, none⟩ = some (.slice QA nQ qc) ∧ wx.cell? ⟨w.heap.size, 5, none⟩ = some (.slice AA na acp) ∧ wx.cell? ⟨F, 0, none⟩ = some (.int .i64 kz) ∧ wx.cell? ⟨F, 1, none⟩ = some (.int .i64 sz) ∧ wx.cell? ⟨F, 2, none⟩ = some (.int .i64 (i : Int)))
      (first | (refine ⟨?_, ?_, ?_, ?_, ?_, ?_, ?_, ?_, ?_, ?_, ?_, ?_, ?_⟩ <;> assumption) | (go_keep; done))
      (first
        | (go_at_call 13; refine (HPA.out _ HBD0.out).mono ?_; rintro e0 W6 ⟨A6, c6, rfl, hi6, hb6⟩; have HB6 := Lib.hid (HBD0.out.trans (hb6.mono HBD0.out.size)); have HCK6 := Lib.hid (HCK.out W6 _ _ HB6.out hi6); obtain ⟨f0, f1, f2, f3, f4, f5, f6, f7, f8, f9, f10, f11, f12⟩ := HQ5.out _ HB6.out; clear hi6 hb6)
        | (go_at_call 34; refine HCK6.out.mono ?_; rintro e0 W7 ⟨rfl, hb7⟩; have HB7 := Lib.hid (HB6.out.trans (hb7.mono HB6.out.size)); obtain ⟨g0, g1, g2, g3, g4, g5, g6, g7, g8, g9, g10, g11, g12⟩ := HQ5.out _ HB7.out; clear hb7))
    have HBW7 := Lib.hid (HBW5.out.trans (HB7.out.mono HBW5.out.size))
    clear d0 d1 d2 d3 d4 d5 d6 d7 d8 d9 d10 d11 d12 f0 f1 f2 f3 f4 f5 f6 f7 f8 f9 f10 f11 f12 HCK HCK6
    by_cases hk1 : k1 = 0
    rotate_left
    · have HTC : Hid (a1 = innK tq) := by show _ = _; rw [HTQ.out, HO.out, if_neg hk1]; rfl
      have t2 : ((k1 : Int) != 0) = true := by simp [hk1]
      clear hk1 HNC HPA
      go_wp2
      go_ret
      exact ⟨by rw [HTC.out]; rfl, HB0.out.trans (HBW7.out.mono HB0.out.size)⟩
    subst hk1
    have HO2 : Hid (oneS (ps.map PT.id) (lastS (ss.take i)) x = if k2 = 0 then (0, []) else (k2, [(false, a2)])) := by show _ = _; rw [HO.out, if_pos rfl]
    have hk2 : k2 ≠ 0 := fun h => HONE.out (by rw [HO2.out, if_pos h])
    clear HO
    go_wp2_with fail
    have hbd7 : Below W5.heap.size W5 W7.drew := HB7.out.trans (((below_refl_drew W7)).mono HB7.out.size)
    have HBD7 := Lib.hid hbd7
    have HK2 : Hid (k2 ≠ 0) := hk2
    clear hbd7 hk2
    go_region_held3 (fun wx => wx.cell? ⟨Q, 0, none⟩ = some (.int .i64 x.id) ∧ wx.cell? ⟨Q, 1, none⟩ = some (.int .i64 x.fr) ∧ wx.cell? ⟨Q, 2, none⟩ = some (.slice BB x.ws.length cb) ∧ wx.cell? ⟨Q, 3, none⟩ = some (.slice CC x.ns.length cc) ∧ wx.cell? ⟨w.heap.size, 0, none⟩ = some (.int .u64 e) ∧ wx.cell? ⟨w.heap.size, 1, none⟩ = some (.int .i64 f) ∧ wx.cell? ⟨w.heap.size, 2, none⟩ = some (.slice PA np pc) ∧ wx.cell? ⟨w.heap.size, 3, none⟩ = some (.slice (some y) ns sc) ∧ wx.cell? ⟨w.heap.size, 4, none⟩ = some (.slice QA nQ qc) ∧ wx.cell? ⟨w.heap.size, 5, none⟩ = some (.slice AA na acp) ∧ wx.cell? ⟨F, 0, none⟩ = some (.int .i64 kz) ∧ wx.cell? ⟨F, 1, none⟩ = some (.int .i64 sz) ∧ wx.cell? ⟨F, 2, none⟩ = some (.int .i64 (i : Int)))
      (first | (refine ⟨?_, ?_, ?_, ?_, ?_, ?_, ?_, ?_, ?_, ?_, ?_, ?_, ?_⟩ <;> assumption) | (go_keep; done))
      (first
        | (go_at_call 13; refine (HPA.out _ HBD7.out).mono ?_; rintro e0 W6 ⟨A6, c6, rfl, hi6, hb6⟩; have HB8 := Lib.hid (HBD7.out.trans (hb6.mono HBD7.out.size)); have HCK6 := Lib.hid (HNC.out W6 _ _ HB8.out hi6); obtain ⟨f0, f1, f2, f3, f4, f5, f6, f7, f8, f9, f10, f11, f12⟩ := HQ5.out _ HB8.out; clear hi6 hb6)
        | (go_at_call 35; refine HCK6.out.mono ?_; rintro e0 W9 ⟨rfl, hb9⟩; have HB9 := Lib.hid (HB8.out.trans (hb9.mono HB8.out.size)); obtain ⟨j0, j1, j2, j3, j4, j5, j6, j7, j8, j9, j10, j11, j12⟩ := HQ5.out _ HB9.out; clear hb9))
    have HBW9 := Lib.hid (HBW5.out.trans (HB9.out.mono HBW5.out.size))
    clear g0 g1 g2 g3 g4 g5 g6 g7 g8 g9 g10 g11 g12 f0 f1 f2 f3 f4 f5 f6 f7 f8 f9 f10 f11 f12 j0 j1 j2 j3 j4 j5 j6 j7 j8 j9 j10 j11 j12 HCK6 HNC HPA
    have HTC : Hid (a2 = innK tq) := by show _ = _; rw [HTQ.out, HO2.out, if_neg HK2.out]; rfl
    have t2 : ((k2 : Int) != 0) = true := by have := HK2.out; simp [this]
    go_wp2
    go_ret
    exact ⟨by rw [HTC.out]; rfl, HB0.out.trans (HBW9.out.mono HB0.out.size)⟩
end

end Go.Proofs.YtmcmmbkodllpkaaGreatDoor.Chk
