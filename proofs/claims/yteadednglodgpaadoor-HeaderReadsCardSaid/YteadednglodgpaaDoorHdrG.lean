
/- What the document's Get of a header reads: the same as the program's. No condition but that the reader stands within a text of at most 2 to the power 40 bytes. -/

import Derived.Test.YteadednglodgpaaDoorHdrT

import Derived.Deep.RegionHeld3

import Derived.Deep.CutRange

namespace Go.Proofs.YteadednglodgpaaDoor.Hdr

open Go.RowKit Go.PlainAid Go.Proofs.YteadednglodgpaaDoor.Oct Go.Proofs.YteadednglodgpaaDoor.Flt Go.Proofs.YteadednglodgpaaDoor.Rdr

set_option linter.unusedVariables false

set_option linter.unusedSimpArgs false

def GRel (w : World) (t1 : St) (i : Value) (wr : World) : Prop := ∃ k : Nat, k ≤ 4 ∧ i = .int .i64 k ∧ GF w (magN t1 k) wr
set_option maxRecDepth 8000 in
set_option maxHeartbeats 60000000 in
theorem rgeth_any (t : St) (w : World) (ho : Ok t) :
    Calls Tryd.prog 19 #[.agg (rdC t)] w (RNumPost (rdS t) (.agg (hdC (rdV t))) w) := by
  have HO := Lib.hid ho
  have h3 := three_facts w (.cells (rdC (secS t 1)) 48) (.cells rd0 48) (.cells hd0 36)
  have hG1 : GF w (secS t 1) (((w.alloc (.cells (rdC (secS t 1)) 48)).alloc (.cells rd0 48)).alloc (.cells hd0 36)) := ⟨h3.1, h3.2.1, h3.2.2.1, h3.2.2.2⟩
  have HG1 := Lib.hid hG1
  obtain ⟨t1, ht1⟩ : ∃ t1, secS t 1 = t1 := ⟨_, rfl⟩
  have HT1 := Lib.hid ht1
  have HO1 : Hid (Ok t1) := by show Ok t1; rw [← ht1]; exact ok_sec HO.out 1
  have HG1 : Hid (GF w t1 (((w.alloc (.cells (rdC (secS t 1)) 48)).alloc (.cells rd0 48)).alloc (.cells hd0 36))) := by show GF _ _ _; rw [← ht1]; exact HG1.out
  have HRT := Lib.hid (one_rd)
  clear ho h3 hG1 ht1
  unfold rdC rd0 hd0 secS at HG1
  dsimp only at HG1
  unfold rdC
  go_enter Tryd.func19, Tryd.ntmps19
  go_wp2
  go_loopw [4] (fun i wr => GRel w t1 i wr) (fun i _ => 4 - (intOf i).toNat)
  case atStart => exact ⟨0, by omega, rfl, HG1.out⟩
  case round =>
    obtain ⟨k, hk, rfl, hf⟩ := hrel
    have HF := Lib.hid hf
    have HOk := Lib.hid (ok_mag HO1.out k)
    by_cases hlt : k < 4
    · have HT : Hid (needS ((numV (magN t1 k) 1 : Int) == bt mag k) (numS (magN t1 k) 1) 3 (magN t1 k).p = magN t1 (k + 1)) := rfl
      have HNUM := Lib.hid (fun w => rnum_any (magN t1 k) 1 w HOk.out (by omega))
      have hv255 := u8_le (magN t1 k)
      have hbk := bt_mag k
      have ix : ∀ w, (Instr.index 9 (.string ⟨#[67, 87, 77, 49]⟩) (.int .i64 k)).run Tryd.prog w = .ok (.int .u8 (bt mag k)) w := fun w => by
        rcases (show k = 0 ∨ k = 1 ∨ k = 2 ∨ k = 3 by omega) with rfl | rfl | rfl | rfl <;> kernel_rfl
      obtain ⟨M, hM⟩ : ∃ M, bt mag k = M := ⟨_, rfl⟩
      obtain ⟨T1, hT1⟩ : ∃ T1, numS (magN t1 k) 1 = T1 := ⟨_, rfl⟩
      obtain ⟨P, hP⟩ : ∃ P, (magN t1 k).p = P := ⟨_, rfl⟩
      obtain ⟨V, hV⟩ : ∃ V, numV (magN t1 k) 1 = V := ⟨_, rfl⟩
      obtain ⟨T2, hT2⟩ : ∃ T2, magN t1 (k + 1) = T2 := ⟨_, rfl⟩
      have HT2 := Lib.hid hT2
      rw [hV] at hv255
      have hw8 : IntKind.u8.wrap (V : Int) = V := IntWalk.u8_in _ (by omega)
      rw [hT1, hV, hP, hM, hT2] at HT
      rw [hT1, hV] at HNUM
      rw [hM] at ix
      obtain ⟨hcp, hck⟩ := HF.out.rows
      rw [hP] at hcp
      obtain ⟨T0, hT0⟩ : ∃ T0, magN t1 k = T0 := ⟨_, rfl⟩
      rw [hT0] at HF HNUM hck
      have HRW := Lib.hid HF.out.row
      have HFAIL := Lib.hid (fun w => rfail_any T1 3 P w (by omega))
      clear hM hT1 hP hV hT2 hT0 HOk hbk hf hv255 hk
      by_cases hk1 : T1.k = 0
      · have tk : ((T1.k : Int) == 0) = true := by simp; exact hk1
        cases hB : ((V : Int) == M) with
        | true =>
          have hBn : ((V : Int) != M) = false := by unfold bne; rw [hB]; rfl
          rw [hB] at HT
          have HE : Hid (T1 = T2) := HT.out
          clear HT hk1 HFAIL
          go_wp2_with (first
            | ((with_reducible show wpList _ _ _ _ _ _); refine wpList_load_row rfl 48 (.tmp 1) rfl w.heap.size rfl 48 (rdC T0) (0, 0) _ HRW.out Tryd.underlying48 rfl (by rw [size_rd]; rfl) ?_)
            | (go_at_call 52; refine (HNUM.out _).mono ?_; rintro e w1 ⟨rfl, hb⟩; obtain ⟨hA, hB', hC, hD⟩ := HF.out.next T1 hb; have HXA := Lib.hid hA; have HXB := Lib.hid hB'; have HXC := Lib.hid hC; have HXD := Lib.hid hD; have hck1 := hD.rows.2; clear hb hA hB' hC hD)
            | ((with_reducible show wpList _ _ _ _ _ _); refine wpList_store_row rfl 48 (.tmp 6) (.tmp 27) rfl w1.heap.size (rdC T1) rfl rfl 48 rd0 HXA.out (by rw [size_rd]; rfl) rfl (one_rd _) ?_)
            | ((with_reducible show wpList _ _ _ _ _ _); refine wpList_load_row rfl 48 (.tmp 6) rfl w1.heap.size rfl 48 (rdC T1) (0, 0) _ HXB.out Tryd.underlying48 rfl (by rw [size_rd]; rfl) ?_)
            | ((with_reducible show wpList _ _ _ _ _ _); refine wpList_store_row rfl 48 (.tmp 1) (.tmp 29) rfl w.heap.size (rdC T1) rfl rfl 48 (rdC T0) HXC.out (by rw [size_rd]; rfl) rfl (one_rd _) ?_))
          go_roundw
          case rel => exact ⟨k + 1, by omega, by go_num, by rw [HT2.out, ← HE.out]; exact HXD.out⟩
          case measure => simp [intOf]; omega
        | false =>
          have hBn : ((V : Int) != M) = true := by unfold bne; rw [hB]; rfl
          rw [hB] at HT
          have HE : Hid (failS T1 3 P = T2) := HT.out
          rw [HE.out] at HFAIL
          clear HT hk1
          go_wp2_with (first
            | ((with_reducible show wpList _ _ _ _ _ _); refine wpList_load_row rfl 48 (.tmp 1) rfl w.heap.size rfl 48 (rdC T0) (0, 0) _ HRW.out Tryd.underlying48 rfl (by rw [size_rd]; rfl) ?_)
            | (go_at_call 52; refine (HNUM.out _).mono ?_; rintro e w1 ⟨rfl, hb⟩; obtain ⟨hA, hB', hC, hD⟩ := HF.out.next T1 hb; have HXA := Lib.hid hA; have HXB := Lib.hid hB'; have HXC := Lib.hid hC; have HXD := Lib.hid hD; have hck1 := hD.rows.2; clear hb hA hB' hC hD)
            | ((with_reducible show wpList _ _ _ _ _ _); refine wpList_store_row rfl 48 (.tmp 6) (.tmp 27) rfl w1.heap.size (rdC T1) rfl rfl 48 rd0 HXA.out (by rw [size_rd]; rfl) rfl (one_rd _) ?_)
            | ((with_reducible show wpList _ _ _ _ _ _); refine wpList_load_row rfl 48 (.tmp 6) rfl w1.heap.size rfl 48 (rdC T1) (0, 0) _ HXB.out Tryd.underlying48 rfl (by rw [size_rd]; rfl) ?_)
            | ((with_reducible show wpList _ _ _ _ _ _); refine wpList_store_row rfl 48 (.tmp 1) (.tmp 29) rfl w.heap.size (rdC T1) rfl rfl 48 (rdC T0) HXC.out (by rw [size_rd]; rfl) rfl (one_rd _) ?_)
            | ((with_reducible show wpList _ _ _ _ _ _); refine wpList_load_row rfl 48 (.tmp 1) rfl w.heap.size rfl 48 (rdC T1) (0, 0) _ HXD.out.row Tryd.underlying48 rfl (by rw [size_rd]; rfl) ?_)
            | (go_at_call 51; refine (HFAIL.out _).mono ?_; rintro e w2 ⟨rfl, hb2⟩; have hG2 := HXD.out.keep hb2; have HG2 := Lib.hid hG2; clear hb2 hG2)
            | ((with_reducible show wpList _ _ _ _ _ _); refine wpList_store_row rfl 48 (.tmp 1) (.tmp 43) rfl w.heap.size (rdC T2) rfl rfl 48 (rdC T1) HG2.out.row (by rw [size_rd]; rfl) rfl (one_rd _) ?_))
          go_roundw
          case rel => exact ⟨k + 1, by omega, by go_num, by rw [HT2.out]; exact HG2.out.setRow T2⟩
          case measure => simp [intOf]; omega
      · have tk : ((T1.k : Int) == 0) = false := by simp; exact hk1
        have HE : Hid (T1 = T2) := by
          show _ = _
          rw [← HT.out]; unfold needS
          split
          · rfl
          · exact (fail_had hk1).symm
        clear HT hk1 HFAIL
        go_wp2_with (first
          | ((with_reducible show wpList _ _ _ _ _ _); refine wpList_load_row rfl 48 (.tmp 1) rfl w.heap.size rfl 48 (rdC T0) (0, 0) _ HRW.out Tryd.underlying48 rfl (by rw [size_rd]; rfl) ?_)
          | (go_at_call 52; refine (HNUM.out _).mono ?_; rintro e w1 ⟨rfl, hb⟩; obtain ⟨hA, hB', hC, hD⟩ := HF.out.next T1 hb; have HXA := Lib.hid hA; have HXB := Lib.hid hB'; have HXC := Lib.hid hC; have HXD := Lib.hid hD; have hck1 := hD.rows.2; clear hb hA hB' hC hD)
          | ((with_reducible show wpList _ _ _ _ _ _); refine wpList_store_row rfl 48 (.tmp 6) (.tmp 27) rfl w1.heap.size (rdC T1) rfl rfl 48 rd0 HXA.out (by rw [size_rd]; rfl) rfl (one_rd _) ?_)
          | ((with_reducible show wpList _ _ _ _ _ _); refine wpList_load_row rfl 48 (.tmp 6) rfl w1.heap.size rfl 48 (rdC T1) (0, 0) _ HXB.out Tryd.underlying48 rfl (by rw [size_rd]; rfl) ?_)
          | ((with_reducible show wpList _ _ _ _ _ _); refine wpList_store_row rfl 48 (.tmp 1) (.tmp 29) rfl w.heap.size (rdC T1) rfl rfl 48 (rdC T0) HXC.out (by rw [size_rd]; rfl) rfl (one_rd _) ?_))
        go_roundw
        case rel => exact ⟨k + 1, by omega, by go_num, by rw [HT2.out, ← HE.out]; exact HXD.out⟩
        case measure => simp [intOf]; omega
    · obtain rfl : k = 4 := by omega
      clear hf hk hlt
      obtain ⟨T4, hT4⟩ : ∃ T4, magN t1 4 = T4 := ⟨_, rfl⟩
      have HT4 : Hid (s1 t = T4) := by show _ = _; rw [← hT4]; unfold s1; rw [HT1.out]
      have HO4 : Hid (Ok T4) := by show Ok _; rw [← hT4]; exact HOk.out
      rw [hT4] at HF
      clear hT4 HOk
      have HO5 := Lib.hid (ok_num HO4.out 4)
      have HN4 := Lib.hid (fun w => rnum_any T4 4 w HO4.out (by omega))
      have hl0 := u32_le T4
      obtain ⟨v0, hv0⟩ : ∃ v, numV T4 4 = v := ⟨_, rfl⟩
      obtain ⟨T5, hT5⟩ : ∃ T, numS T4 4 = T := ⟨_, rfl⟩
      rw [hv0, hT5] at HN4
      rw [hv0] at hl0
      rw [hT5] at HO5
      have HO6 := Lib.hid (ok_num HO5.out 8)
      have HN5 := Lib.hid (fun w => rnum_any T5 8 w HO5.out (by omega))
      have hl1 := u64_le T5
      obtain ⟨v1, hv1⟩ : ∃ v, numV T5 8 = v := ⟨_, rfl⟩
      obtain ⟨T6, hT6⟩ : ∃ T, numS T5 8 = T := ⟨_, rfl⟩
      rw [hv1, hT6] at HN5
      rw [hv1] at hl1
      rw [hT6] at HO6
      have HO7 := Lib.hid (ok_num HO6.out 1)
      have HN6 := Lib.hid (fun w => rnum_any T6 1 w HO6.out (by omega))
      have hl2 := u8_le T6
      obtain ⟨v2, hv2⟩ : ∃ v, numV T6 1 = v := ⟨_, rfl⟩
      obtain ⟨T7, hT7⟩ : ∃ T, numS T6 1 = T := ⟨_, rfl⟩
      rw [hv2, hT7] at HN6
      rw [hv2] at hl2
      rw [hT7] at HO7
      have HH : Hid (numV (s1 t) 4 = v0 ∧ numV (s2 t) 8 = v1 ∧ numV (s3 t) 1 = v2 ∧ s4 t = T7) := by
        show _ ∧ _
        unfold s4 s3 s2
        rw [HT4.out, hT5, hT6]
        exact ⟨hv0, hv1, hv2, hT7⟩
      have hw0 : IntKind.u32.wrap (v0 : Int) = v0 := IntWalk.u32_in _ (by omega)
      have hw2 : IntKind.i64.wrap (v2 : Int) = v2 := IntWalk.i64_in _ (by omega)
      have HW0 := Lib.hid hw0
      have HW2 := Lib.hid hw2
      have hh8 := heap_alloc_new wr (.cells #[.int .u32 0, .int .u64 0, .int .i64 0, .int .i64 0, .int .i64 0, .int .i64 0, .int .i64 0] 36)
      have hb8 : Below wr.heap.size wr ((wr.alloc (.cells #[.int .u32 0, .int .u64 0, .int .i64 0, .int .i64 0, .int .i64 0, .int .i64 0, .int .i64 0] 36)).setRow wr.heap.size hd0) := below_set2 ((Below.refl _ _).alloc (Nat.le_refl _) _) (Nat.le_refl _)
      have hE0 : G2 w T4 wr.heap.size hd0 ((wr.alloc (.cells #[.int .u32 0, .int .u64 0, .int .i64 0, .int .i64 0, .int .i64 0, .int .i64 0, .int .i64 0] 36)).setRow wr.heap.size hd0) :=
        ⟨HF.out.keep hb8, setRow_heap _ _ _ _ _ _ hh8, HF.out.size⟩
      have HH8 := Lib.hid hh8
      have HE0 := Lib.hid hE0
      have HOZ := Lib.hid (one_hd hdZ)
      clear hv0 hv1 hv2 hT7 hT6 hT5 hh8 hb8 hE0 hl0 hl1 hl2 HO4 HO5 HO6 hw0 hw2
      unfold hdC hdZ at HOZ
      go_wp2_with (first
        | ((with_reducible show wpList _ _ _ _ _ _); refine wpList_store_row rfl 36 (.tmp 8) (.tmp 44) rfl wr.heap.size hd0 rfl rfl 36 hd0 HH8.out (by rw [size_rhd]; rfl) rfl HOZ.out ?_)
        | ((with_reducible show wpList _ _ _ _ _ _); refine wpList_load_row rfl 48 (.tmp 1) rfl w.heap.size rfl 48 (rdC T4) (0, 0) _ HE0.out.gf.row Tryd.underlying48 rfl (by rw [size_rd]; rfl) ?_))
      refine (HN4.out _).mono ?_
      rintro e w1 ⟨rfl, hb⟩
      have HE1 := Lib.hid (HE0.out.keep hb)
      have HE2 := Lib.hid (HE1.out.setRow T5)
      clear hb
      go_wp2_with (first
        | ((with_reducible show wpList _ _ _ _ _ _); refine wpList_store_row rfl 48 (.tmp 1) (.tmp 48) rfl w.heap.size (rdC T5) rfl rfl 48 (rdC T4) HE1.out.gf.row (by rw [size_rd]; rfl) rfl (one_rd _) ?_)
        | ((with_reducible show wpList _ _ _ _ _ _); refine wpList_load_row rfl 48 (.tmp 1) rfl w.heap.size rfl 48 (rdC T5) (0, 0) _ HE2.out.gf.row Tryd.underlying48 rfl (by rw [size_rd]; rfl) ?_))
      refine (HN5.out _).mono ?_
      rintro e w2 ⟨rfl, hb⟩
      have HE3 := Lib.hid (HE2.out.keep hb)
      have HE4 := Lib.hid (HE3.out.setRow T6)
      clear hb
      go_wp2_with (first
        | ((with_reducible show wpList _ _ _ _ _ _); refine wpList_store_row rfl 48 (.tmp 1) (.tmp 53) rfl w.heap.size (rdC T6) rfl rfl 48 (rdC T5) HE3.out.gf.row (by rw [size_rd]; rfl) rfl (one_rd _) ?_)
        | ((with_reducible show wpList _ _ _ _ _ _); refine wpList_load_row rfl 48 (.tmp 1) rfl w.heap.size rfl 48 (rdC T6) (0, 0) _ HE4.out.gf.row Tryd.underlying48 rfl (by rw [size_rd]; rfl) ?_))
      refine (HN6.out _).mono ?_
      rintro e w3 ⟨rfl, hb⟩
      have hE5 := HE4.out.keep hb
      have hE6 := hE5.setRow T7
      have HE5 := Lib.hid hE5
      have hz0 := frozen_of_row _ _ 0 _ _ hE6.hdr
      have hz1 := frozen_of_row _ _ 1 _ _ hE6.hdr
      have hz2 := frozen_of_row _ _ 2 _ _ hE6.hdr
      have hc0 := cell_of_row _ _ 0 _ _ _ hE6.hdr
      have hc1 := cell_of_row _ _ 1 _ _ _ hE6.hdr
      have hc2 := cell_of_row _ _ 2 _ _ _ hE6.hdr
      have hE7 := ((hE6.set 0 (.int .u32 v0)).set 1 (.int .u64 v1)).set 2 (.int .i64 v2)
      simp only [hd0, List.setIfInBounds_toArray, List.set_cons_zero, List.set_cons_succ, List.getElem?_toArray, List.getElem?_cons_zero, List.getElem?_cons_succ] at hE7 hc0 hc1 hc2
      have HE7 := Lib.hid hE7
      have hw0 := HW0.out
      have hw2 := HW2.out
      clear hb hE5 hE6 hE7
      go_wp2_with ((with_reducible show wpList _ _ _ _ _ _); refine wpList_store_row rfl 48 (.tmp 1) (.tmp 58) rfl w.heap.size (rdC T7) rfl rfl 48 (rdC T6) HE5.out.gf.row (by rw [size_rd]; rfl) rfl (one_rd _) ?_)
      have hW9 : ∃ W, W = ((((w3.setRow w.heap.size (rdC T7)).setCell ⟨wr.heap.size, 0, none⟩ (.int .u32 v0)).setCell ⟨wr.heap.size, 1, none⟩ (.int .u64 v1)).setCell ⟨wr.heap.size, 2, none⟩ (.int .i64 v2)).alloc (.cells #[.int .i64 0, .int .i64 1, .int .i64 1, .int .i64 2, .int .i64 2] 3) := ⟨_, rfl⟩
      obtain ⟨W, hW⟩ := hW9
      have hR9 : R20 w (cntN T7 0) wr.heap.size (hrow v0 v1 v2 T7 1) w3.heap.size W := by
        rw [hW]
        refine ⟨HE7.out.keep ((Below.refl _ _).alloc (Nat.le_refl _) _), ?_⟩
        have := heap_alloc_new ((((w3.setRow w.heap.size (rdC T7)).setCell ⟨wr.heap.size, 0, none⟩ (.int .u32 v0)).setCell ⟨wr.heap.size, 1, none⟩ (.int .u64 v1)).setCell ⟨wr.heap.size, 2, none⟩ (.int .i64 v2)) (.cells #[.int .i64 0, .int .i64 1, .int .i64 1, .int .i64 2, .int .i64 2] 3)
        simpa [szC] using this
      have HZL : Hid (wr.heap.size < w3.heap.size) := lt_of_block HE5.out.hdr
      have HR9 := Lib.hid hR9
      rw [← hW]
      clear hW hR9 HE7 HE5 HE4 HE3 HE2 HE1 HE0 HH8 HN4 HN5 HN6 hc0 hc1 hc2 hz0 hz1 hz2 hw0 hw2 HF
      obtain ⟨H, hH⟩ : ∃ H, wr.heap.size = H := ⟨_, rfl⟩
      obtain ⟨Z, hZ⟩ : ∃ Z, w3.heap.size = Z := ⟨_, rfl⟩
      rw [hH, hZ] at HZL HR9
      rw [hH, hZ]
      clear hH hZ
      go_loopw [13] (fun i wl => LRel w T7 H Z v0 v1 v2 i wl) (fun i _ => 5 - (intOf i).toNat)
      case atStart => exact ⟨1, by omega, by omega, rfl, HR9.out.g2, HR9.out.sz⟩
      case round =>
        obtain ⟨m, h1, h5, rfl, hg, hs⟩ := hrel
        clear HR9
        by_cases hm : m ≤ 4
        · have tm : decide ((m : Int) ≤ 4) = true := decide_eq_true (by omega)
          have hR : R20 w (cntN T7 (m - 1)) H (hrow v0 v1 v2 T7 m) Z wr := ⟨hg, hs⟩
          have HR := Lib.hid hR
          obtain ⟨j, hj⟩ : ∃ j, m - 1 = j := ⟨_, rfl⟩
          rw [hj] at HR
          have HM : Hid (1 ≤ m ∧ m ≤ 4 ∧ m - 1 = j ∧ m = j + 1) := ⟨h1, hm, hj, by omega⟩
          have HOk : Hid (Ok (cntN T7 j)) := ok_cnt HO7.out j
          have hn12 : wide j = 1 ∨ wide j = 2 := by unfold wide; split <;> omega
          obtain ⟨n, hn⟩ : ∃ n, wide j = n := ⟨_, rfl⟩
          have hsz : szC[m]? = some (.int .i64 n) := by
            rw [← hn]
            rcases (show m = 1 ∨ m = 2 ∨ m = 3 ∨ m = 4 by omega) with rfl | rfl | rfl | rfl
            all_goals (subst hj; rfl)
          have HNUM := Lib.hid (fun w => rnum_any (cntN T7 j) n w HOk.out (by omega))
          have HT : Hid (needS (fineB j (numV (cntN T7 j) n)) (numS (cntN T7 j) n) 8 (cntN T7 j).p = cntN T7 (j + 1)) := by show _ = _; rw [← hn]; rfl
          have hle : numV (cntN T7 j) n ≤ 65535 := by
            rw [hn] at hn12
            rcases hn12 with rfl | rfl
            · have := u8_le (cntN T7 j); omega
            · exact u16_le (cntN T7 j)
          obtain ⟨T1, hT1⟩ : ∃ T, numS (cntN T7 j) n = T := ⟨_, rfl⟩
          obtain ⟨P, hP⟩ : ∃ P, (cntN T7 j).p = P := ⟨_, rfl⟩
          obtain ⟨V, hV⟩ : ∃ V, numV (cntN T7 j) n = V := ⟨_, rfl⟩
          obtain ⟨T2, hT2⟩ : ∃ T, cntN T7 (j + 1) = T := ⟨_, rfl⟩
          obtain ⟨B, hB⟩ : ∃ B, fineB j (V : Int) = B := ⟨_, rfl⟩
          have HV : Hid (cntV T7 j = V) := by show _ = _; unfold cntV; rw [hn]; exact hV
          have HT2 := Lib.hid hT2
          rw [hT1, hP, hV, hT2, hB] at HT
          rw [hT1, hV] at HNUM
          rw [hV] at hle
          have hwv : IntKind.i64.wrap (V : Int) = V := IntWalk.i64_in _ (by omega)
          have HFINE : Hid (∀ w, Calls Tryd.prog 37 #[.int .i64 m, .int .i64 V] w fun e w' => e = .returned (.bool B) ∧ Below w.heap.size w w') := fun w => by rw [← hB, ← hj]; exact rfine_at m h1 hm V w
          have HFAIL := Lib.hid (fun w => rfail_any T1 8 P w (by omega))
          obtain ⟨T0, hT0⟩ : ∃ T, cntN T7 j = T := ⟨_, rfl⟩
          rw [hT0] at HR HNUM hP
          have HD : Hid (∀ w1, Below wr.drew.heap.size wr.drew w1 → R20 w T0 H (hrow v0 v1 v2 T7 m) Z w1) := fun w1 b => HR.out.drewn b
          have hcp : wr.cell? ⟨w.heap.size, 1, none⟩ = some (.int .i64 P) := by rw [← hP]; exact HR.out.g2.gf.rows.1
          have HSZ := Lib.hid hsz
          have HWV := Lib.hid hwv
          have HXN : Hid (w.heap.size + 2 < wr.heap.size ∧ H < wr.heap.size ∧ Z < wr.heap.size) := ⟨HR.out.g2.gf.size, lt_of_block HR.out.g2.hdr, lt_of_block HR.out.sz⟩
          have hm5 : (m : Int) < 5 := by omega
          clear hP hR hg hs HOk hT1 hV hT2 hT0 hB hle h1 h5 hwv hn hn12 hj hm hsz
          go_wp2
          go_cut [15, 16] from 69 to 117 (fun p v wx => v = .int .u64 V ∧ ∃ X, p = .pointer (some ⟨X, 0, none⟩) ∧ wx.heap[X]? = some (.cells (rdC T1) 48 (0, 0)) ∧ R20 w T0 H (hrow v0 v1 v2 T7 m) Z wx)
          case first =>
            clear hcp
            obtain ⟨d0, d1, d2, d3, d4, d5, d6⟩ := HR.out.s7 m n HSZ.out
            have hne5 : wr.heap.size ≠ w.heap.size := by have := HXN.out.1; omega
            have hne6 : wr.heap.size ≠ Z := by have := HXN.out.2.2; omega
            have hne7 := hne5.symm
            have hne8 := hne6.symm
            go_region_held3 (fun wx => wx.cell? ⟨w.heap.size, 0, none⟩ = some (.string T0.s) ∧ wx.cell? ⟨w.heap.size, 1, none⟩ = some (.int .i64 T0.p) ∧ wx.cell? ⟨w.heap.size, 2, none⟩ = some (.int .i64 T0.sec) ∧ wx.cell? ⟨w.heap.size, 3, none⟩ = some (.int .i64 T0.k) ∧ wx.cell? ⟨w.heap.size, 4, none⟩ = some (.int .i64 T0.fs) ∧ wx.cell? ⟨w.heap.size, 5, none⟩ = some (.int .i64 T0.fa) ∧ wx.cell? ⟨Z, m, none⟩ = some (.int .i64 n)) (first | (go_keep; done) | exact HKP.out | exact HKQ.out)
              (first
                | (go_at_call 52; refine (HNUM.out _).mono ?_; rintro e w1 ⟨rfl, hb⟩; dsimp only [rdC]; have f1 := HD.out w1 (by exact hb); have HEND := Lib.hid (f1.copied (T1 := T1)); have HKP := Lib.hid (f1.s7 m n HSZ.out); have HKQ := Lib.hid (HEND.out.2.s7 m n HSZ.out); have hne1 : w1.heap.size ≠ w.heap.size := (by have := f1.g2.gf.size; omega); have hne2 : w1.heap.size ≠ Z := (by have := lt_of_block f1.sz; omega); have hne3 := hne1.symm; have hne4 := hne2.symm; clear hb f1)
                | (go_at_call 52; refine (HNUM.out _).mono ?_; rintro e w1 ⟨rfl, hb⟩; dsimp only [rdC]; obtain ⟨f1, hz⟩ := HR.out.before (by exact hb); obtain ⟨e0, e1, e2, e3, e4, e5, ef⟩ := zero_cells hz; have HEND := Lib.hid (f1.sixed HXN.out.1 (by have := HXN.out.2.1; omega) (by have := HXN.out.2.2; omega) T1 hz); have HKP := Lib.hid (f1.s7 m n HSZ.out); have HKQ := Lib.hid (HEND.out.2.s7 m n HSZ.out); clear hb f1 hz)
                | fail)
            all_goals
              go_wp2
              go_meet
              case rel => exact ⟨rfl, _, rfl, by exact HEND.out.1, by exact HEND.out.2⟩
          case rest =>
          obtain ⟨rfl, X, rfl, hx1, hx2⟩ := hcut
          have HXB := Lib.hid hx1
          have HX2 := Lib.hid hx2
          have hX3 := hx2.row HZL.out T1
          have hck := hX3.g2.gf.rows.2
          have HX3 := Lib.hid hX3
          obtain ⟨g1, g4, gj, gm⟩ := HM.out
          clear hcp hx1 hx2 hX3 HNUM HD HR HM
          rcases (show m = 1 ∨ m = 2 ∨ m = 3 ∨ m = 4 by omega) with rfl | rfl | rfl | rfl
          · obtain rfl : j = 0 := by omega
            clear g1 g4 gj gm
            by_cases hk1 : T1.k = 0
            · have tk : ((T1.k : Int) == 0) = true := by simp; exact hk1
              cases B with
              | true =>
                have HE : Hid (T1 = T2) := HT.out
                have hwv := HWV.out
                clear HT hk1 HFAIL
                go_wp2_with (first
                  | ((with_reducible show wpList _ _ _ _ _ _); refine wpList_load_row rfl 48 (.tmp 15) rfl X rfl 48 (rdC T1) (0, 0) _ HXB.out Tryd.underlying48 rfl (by rw [size_rd]; rfl) ?_)
                  | ((with_reducible show wpList _ _ _ _ _ _); refine wpList_store_row rfl 48 (.tmp 1) (.tmp 84) rfl w.heap.size (rdC T1) rfl rfl 48 (rdC T0) HX2.out.g2.gf.row (by rw [size_rd]; rfl) rfl (one_rd _) ?_)
                  | (go_at_call 37; refine (HFINE.out _).mono ?_; rintro e w5 ⟨rfl, hb5⟩; have f5 := HX3.out.keep hb5; have HX5 := Lib.hid f5; have hz5 := frozen_of_row _ _ 3 _ _ f5.g2.hdr; have hc5 := cell_of_row _ _ 3 _ _ _ f5.g2.hdr; simp only [hrow, List.getElem?_toArray, List.getElem?_cons_zero, List.getElem?_cons_succ] at hc5; have HX7 := Lib.hid (f5.set HZL.out 3 (.int .i64 V)); clear hb5 f5))
                go_roundw
                case rel => exact ⟨2, by omega, by omega, by go_num, by
                  have h := HX7.out.g2
                  rw [show hrow v0 v1 v2 T7 2 = (hrow v0 v1 v2 T7 1).setIfInBounds 3 (.int .i64 V) by rw [← HV.out]; rfl]
                  show G2 w (cntN T7 (0 + 1)) H _ _
                  rw [HT2.out, ← HE.out]
                  exact h, HX7.out.sz⟩
                case measure => simp [intOf]
              | false =>
                have HE : Hid (failS T1 8 P = T2) := HT.out
                rw [HE.out] at HFAIL
                have hwv := HWV.out
                clear HT hk1
                go_wp2_with (first
                  | ((with_reducible show wpList _ _ _ _ _ _); refine wpList_load_row rfl 48 (.tmp 15) rfl X rfl 48 (rdC T1) (0, 0) _ HXB.out Tryd.underlying48 rfl (by rw [size_rd]; rfl) ?_)
                  | ((with_reducible show wpList _ _ _ _ _ _); refine wpList_store_row rfl 48 (.tmp 1) (.tmp 84) rfl w.heap.size (rdC T1) rfl rfl 48 (rdC T0) HX2.out.g2.gf.row (by rw [size_rd]; rfl) rfl (one_rd _) ?_)
                  | (go_at_call 37; refine (HFINE.out _).mono ?_; rintro e w5 ⟨rfl, hb5⟩; have f5 := HX3.out.keep hb5; have HX5 := Lib.hid f5; clear hb5 f5)
                  | ((with_reducible show wpList _ _ _ _ _ _); refine wpList_load_row rfl 48 (.tmp 1) rfl w.heap.size rfl 48 (rdC T1) (0, 0) _ HX5.out.g2.gf.row Tryd.underlying48 rfl (by rw [size_rd]; rfl) ?_)
                  | (go_at_call 51; refine (HFAIL.out _).mono ?_; rintro e w6 ⟨rfl, hb6⟩; have HX6 := Lib.hid (HX5.out.keep hb6); have f6 := HX6.out.row HZL.out T2; have hz5 := frozen_of_row _ _ 3 _ _ f6.g2.hdr; have hc5 := cell_of_row _ _ 3 _ _ _ f6.g2.hdr; simp only [hrow, List.getElem?_toArray, List.getElem?_cons_zero, List.getElem?_cons_succ] at hc5; have HX7 := Lib.hid (f6.set HZL.out 3 (.int .i64 V)); clear hb6 f6)
                  | ((with_reducible show wpList _ _ _ _ _ _); refine wpList_store_row rfl 48 (.tmp 1) (.tmp 98) rfl w.heap.size (rdC T2) rfl rfl 48 (rdC T1) HX6.out.g2.gf.row (by rw [size_rd]; rfl) rfl (one_rd _) ?_))
                go_roundw
                case rel => exact ⟨2, by omega, by omega, by go_num, by
                  have h := HX7.out.g2
                  rw [show hrow v0 v1 v2 T7 2 = (hrow v0 v1 v2 T7 1).setIfInBounds 3 (.int .i64 V) by rw [← HV.out]; rfl]
                  show G2 w (cntN T7 (0 + 1)) H _ _
                  rw [HT2.out]
                  exact h, HX7.out.sz⟩
                case measure => simp [intOf]
            · have tk : ((T1.k : Int) == 0) = false := by simp; exact hk1
              have HE : Hid (T1 = T2) := by
                show _ = _
                rw [← HT.out]; unfold needS
                split
                · rfl
                · exact (fail_had hk1).symm
              have hwv := HWV.out
              have f5 := HX3.out
              have HX7 := Lib.hid (f5.set HZL.out 3 (.int .i64 V))
              have hz5 := frozen_of_row _ _ 3 _ _ f5.g2.hdr; have hc5 := cell_of_row _ _ 3 _ _ _ f5.g2.hdr; simp only [hrow, List.getElem?_toArray, List.getElem?_cons_zero, List.getElem?_cons_succ] at hc5
              clear HT hk1 HFAIL HFINE f5
              go_wp2_with (first
                | ((with_reducible show wpList _ _ _ _ _ _); refine wpList_load_row rfl 48 (.tmp 15) rfl X rfl 48 (rdC T1) (0, 0) _ HXB.out Tryd.underlying48 rfl (by rw [size_rd]; rfl) ?_)
                | ((with_reducible show wpList _ _ _ _ _ _); refine wpList_store_row rfl 48 (.tmp 1) (.tmp 84) rfl w.heap.size (rdC T1) rfl rfl 48 (rdC T0) HX2.out.g2.gf.row (by rw [size_rd]; rfl) rfl (one_rd _) ?_))
              go_roundw
              case rel => exact ⟨2, by omega, by omega, by go_num, by
                have h := HX7.out.g2
                rw [show hrow v0 v1 v2 T7 2 = (hrow v0 v1 v2 T7 1).setIfInBounds 3 (.int .i64 V) by rw [← HV.out]; rfl]
                show G2 w (cntN T7 (0 + 1)) H _ _
                rw [HT2.out, ← HE.out]
                exact h, HX7.out.sz⟩
              case measure => simp [intOf]
          · obtain rfl : j = 1 := by omega
            clear g1 g4 gj gm
            by_cases hk1 : T1.k = 0
            · have tk : ((T1.k : Int) == 0) = true := by simp; exact hk1
              cases B with
              | true =>
                have HE : Hid (T1 = T2) := HT.out
                have hwv := HWV.out
                clear HT hk1 HFAIL
                go_wp2_with (first
                  | ((with_reducible show wpList _ _ _ _ _ _); refine wpList_load_row rfl 48 (.tmp 15) rfl X rfl 48 (rdC T1) (0, 0) _ HXB.out Tryd.underlying48 rfl (by rw [size_rd]; rfl) ?_)
                  | ((with_reducible show wpList _ _ _ _ _ _); refine wpList_store_row rfl 48 (.tmp 1) (.tmp 84) rfl w.heap.size (rdC T1) rfl rfl 48 (rdC T0) HX2.out.g2.gf.row (by rw [size_rd]; rfl) rfl (one_rd _) ?_)
                  | (go_at_call 37; refine (HFINE.out _).mono ?_; rintro e w5 ⟨rfl, hb5⟩; have f5 := HX3.out.keep hb5; have HX5 := Lib.hid f5; have hz5 := frozen_of_row _ _ 4 _ _ f5.g2.hdr; have hc5 := cell_of_row _ _ 4 _ _ _ f5.g2.hdr; simp only [hrow, List.getElem?_toArray, List.getElem?_cons_zero, List.getElem?_cons_succ] at hc5; have HX7 := Lib.hid (f5.set HZL.out 4 (.int .i64 V)); clear hb5 f5))
                go_roundw
                case rel => exact ⟨3, by omega, by omega, by go_num, by
                  have h := HX7.out.g2
                  rw [show hrow v0 v1 v2 T7 3 = (hrow v0 v1 v2 T7 2).setIfInBounds 4 (.int .i64 V) by rw [← HV.out]; rfl]
                  show G2 w (cntN T7 (1 + 1)) H _ _
                  rw [HT2.out, ← HE.out]
                  exact h, HX7.out.sz⟩
                case measure => simp [intOf]
              | false =>
                have HE : Hid (failS T1 8 P = T2) := HT.out
                rw [HE.out] at HFAIL
                have hwv := HWV.out
                clear HT hk1
                go_wp2_with (first
                  | ((with_reducible show wpList _ _ _ _ _ _); refine wpList_load_row rfl 48 (.tmp 15) rfl X rfl 48 (rdC T1) (0, 0) _ HXB.out Tryd.underlying48 rfl (by rw [size_rd]; rfl) ?_)
                  | ((with_reducible show wpList _ _ _ _ _ _); refine wpList_store_row rfl 48 (.tmp 1) (.tmp 84) rfl w.heap.size (rdC T1) rfl rfl 48 (rdC T0) HX2.out.g2.gf.row (by rw [size_rd]; rfl) rfl (one_rd _) ?_)
                  | (go_at_call 37; refine (HFINE.out _).mono ?_; rintro e w5 ⟨rfl, hb5⟩; have f5 := HX3.out.keep hb5; have HX5 := Lib.hid f5; clear hb5 f5)
                  | ((with_reducible show wpList _ _ _ _ _ _); refine wpList_load_row rfl 48 (.tmp 1) rfl w.heap.size rfl 48 (rdC T1) (0, 0) _ HX5.out.g2.gf.row Tryd.underlying48 rfl (by rw [size_rd]; rfl) ?_)
                  | (go_at_call 51; refine (HFAIL.out _).mono ?_; rintro e w6 ⟨rfl, hb6⟩; have HX6 := Lib.hid (HX5.out.keep hb6); have f6 := HX6.out.row HZL.out T2; have hz5 := frozen_of_row _ _ 4 _ _ f6.g2.hdr; have hc5 := cell_of_row _ _ 4 _ _ _ f6.g2.hdr; simp only [hrow, List.getElem?_toArray, List.getElem?_cons_zero, List.getElem?_cons_succ] at hc5; have HX7 := Lib.hid (f6.set HZL.out 4 (.int .i64 V)); clear hb6 f6)
                  | ((with_reducible show wpList _ _ _ _ _ _); refine wpList_store_row rfl 48 (.tmp 1) (.tmp 98) rfl w.heap.size (rdC T2) rfl rfl 48 (rdC T1) HX6.out.g2.gf.row (by rw [size_rd]; rfl) rfl (one_rd _) ?_))
                go_roundw
                case rel => exact ⟨3, by omega, by omega, by go_num, by
                  have h := HX7.out.g2
                  rw [show hrow v0 v1 v2 T7 3 = (hrow v0 v1 v2 T7 2).setIfInBounds 4 (.int .i64 V) by rw [← HV.out]; rfl]
                  show G2 w (cntN T7 (1 + 1)) H _ _
                  rw [HT2.out]
                  exact h, HX7.out.sz⟩
                case measure => simp [intOf]
            · have tk : ((T1.k : Int) == 0) = false := by simp; exact hk1
              have HE : Hid (T1 = T2) := by
                show _ = _
                rw [← HT.out]; unfold needS
                split
                · rfl
                · exact (fail_had hk1).symm
              have hwv := HWV.out
              have f5 := HX3.out
              have HX7 := Lib.hid (f5.set HZL.out 4 (.int .i64 V))
              have hz5 := frozen_of_row _ _ 4 _ _ f5.g2.hdr; have hc5 := cell_of_row _ _ 4 _ _ _ f5.g2.hdr; simp only [hrow, List.getElem?_toArray, List.getElem?_cons_zero, List.getElem?_cons_succ] at hc5
              clear HT hk1 HFAIL HFINE f5
              go_wp2_with (first
                | ((with_reducible show wpList _ _ _ _ _ _); refine wpList_load_row rfl 48 (.tmp 15) rfl X rfl 48 (rdC T1) (0, 0) _ HXB.out Tryd.underlying48 rfl (by rw [size_rd]; rfl) ?_)
                | ((with_reducible show wpList _ _ _ _ _ _); refine wpList_store_row rfl 48 (.tmp 1) (.tmp 84) rfl w.heap.size (rdC T1) rfl rfl 48 (rdC T0) HX2.out.g2.gf.row (by rw [size_rd]; rfl) rfl (one_rd _) ?_))
              go_roundw
              case rel => exact ⟨3, by omega, by omega, by go_num, by
                have h := HX7.out.g2
                rw [show hrow v0 v1 v2 T7 3 = (hrow v0 v1 v2 T7 2).setIfInBounds 4 (.int .i64 V) by rw [← HV.out]; rfl]
                show G2 w (cntN T7 (1 + 1)) H _ _
                rw [HT2.out, ← HE.out]
                exact h, HX7.out.sz⟩
              case measure => simp [intOf]
          · obtain rfl : j = 2 := by omega
            clear g1 g4 gj gm
            by_cases hk1 : T1.k = 0
            · have tk : ((T1.k : Int) == 0) = true := by simp; exact hk1
              cases B with
              | true =>
                have HE : Hid (T1 = T2) := HT.out
                have hwv := HWV.out
                clear HT hk1 HFAIL
                go_wp2_with (first
                  | ((with_reducible show wpList _ _ _ _ _ _); refine wpList_load_row rfl 48 (.tmp 15) rfl X rfl 48 (rdC T1) (0, 0) _ HXB.out Tryd.underlying48 rfl (by rw [size_rd]; rfl) ?_)
                  | ((with_reducible show wpList _ _ _ _ _ _); refine wpList_store_row rfl 48 (.tmp 1) (.tmp 84) rfl w.heap.size (rdC T1) rfl rfl 48 (rdC T0) HX2.out.g2.gf.row (by rw [size_rd]; rfl) rfl (one_rd _) ?_)
                  | (go_at_call 37; refine (HFINE.out _).mono ?_; rintro e w5 ⟨rfl, hb5⟩; have f5 := HX3.out.keep hb5; have HX5 := Lib.hid f5; have hz5 := frozen_of_row _ _ 5 _ _ f5.g2.hdr; have hc5 := cell_of_row _ _ 5 _ _ _ f5.g2.hdr; simp only [hrow, List.getElem?_toArray, List.getElem?_cons_zero, List.getElem?_cons_succ] at hc5; have HX7 := Lib.hid (f5.set HZL.out 5 (.int .i64 V)); clear hb5 f5))
                go_roundw
                case rel => exact ⟨4, by omega, by omega, by go_num, by
                  have h := HX7.out.g2
                  rw [show hrow v0 v1 v2 T7 4 = (hrow v0 v1 v2 T7 3).setIfInBounds 5 (.int .i64 V) by rw [← HV.out]; rfl]
                  show G2 w (cntN T7 (2 + 1)) H _ _
                  rw [HT2.out, ← HE.out]
                  exact h, HX7.out.sz⟩
                case measure => simp [intOf]
              | false =>
                have HE : Hid (failS T1 8 P = T2) := HT.out
                rw [HE.out] at HFAIL
                have hwv := HWV.out
                clear HT hk1
                go_wp2_with (first
                  | ((with_reducible show wpList _ _ _ _ _ _); refine wpList_load_row rfl 48 (.tmp 15) rfl X rfl 48 (rdC T1) (0, 0) _ HXB.out Tryd.underlying48 rfl (by rw [size_rd]; rfl) ?_)
                  | ((with_reducible show wpList _ _ _ _ _ _); refine wpList_store_row rfl 48 (.tmp 1) (.tmp 84) rfl w.heap.size (rdC T1) rfl rfl 48 (rdC T0) HX2.out.g2.gf.row (by rw [size_rd]; rfl) rfl (one_rd _) ?_)
                  | (go_at_call 37; refine (HFINE.out _).mono ?_; rintro e w5 ⟨rfl, hb5⟩; have f5 := HX3.out.keep hb5; have HX5 := Lib.hid f5; clear hb5 f5)
                  | ((with_reducible show wpList _ _ _ _ _ _); refine wpList_load_row rfl 48 (.tmp 1) rfl w.heap.size rfl 48 (rdC T1) (0, 0) _ HX5.out.g2.gf.row Tryd.underlying48 rfl (by rw [size_rd]; rfl) ?_)
                  | (go_at_call 51; refine (HFAIL.out _).mono ?_; rintro e w6 ⟨rfl, hb6⟩; have HX6 := Lib.hid (HX5.out.keep hb6); have f6 := HX6.out.row HZL.out T2; have hz5 := frozen_of_row _ _ 5 _ _ f6.g2.hdr; have hc5 := cell_of_row _ _ 5 _ _ _ f6.g2.hdr; simp only [hrow, List.getElem?_toArray, List.getElem?_cons_zero, List.getElem?_cons_succ] at hc5; have HX7 := Lib.hid (f6.set HZL.out 5 (.int .i64 V)); clear hb6 f6)
                  | ((with_reducible show wpList _ _ _ _ _ _); refine wpList_store_row rfl 48 (.tmp 1) (.tmp 98) rfl w.heap.size (rdC T2) rfl rfl 48 (rdC T1) HX6.out.g2.gf.row (by rw [size_rd]; rfl) rfl (one_rd _) ?_))
                go_roundw
                case rel => exact ⟨4, by omega, by omega, by go_num, by
                  have h := HX7.out.g2
                  rw [show hrow v0 v1 v2 T7 4 = (hrow v0 v1 v2 T7 3).setIfInBounds 5 (.int .i64 V) by rw [← HV.out]; rfl]
                  show G2 w (cntN T7 (2 + 1)) H _ _
                  rw [HT2.out]
                  exact h, HX7.out.sz⟩
                case measure => simp [intOf]
            · have tk : ((T1.k : Int) == 0) = false := by simp; exact hk1
              have HE : Hid (T1 = T2) := by
                show _ = _
                rw [← HT.out]; unfold needS
                split
                · rfl
                · exact (fail_had hk1).symm
              have hwv := HWV.out
              have f5 := HX3.out
              have HX7 := Lib.hid (f5.set HZL.out 5 (.int .i64 V))
              have hz5 := frozen_of_row _ _ 5 _ _ f5.g2.hdr; have hc5 := cell_of_row _ _ 5 _ _ _ f5.g2.hdr; simp only [hrow, List.getElem?_toArray, List.getElem?_cons_zero, List.getElem?_cons_succ] at hc5
              clear HT hk1 HFAIL HFINE f5
              go_wp2_with (first
                | ((with_reducible show wpList _ _ _ _ _ _); refine wpList_load_row rfl 48 (.tmp 15) rfl X rfl 48 (rdC T1) (0, 0) _ HXB.out Tryd.underlying48 rfl (by rw [size_rd]; rfl) ?_)
                | ((with_reducible show wpList _ _ _ _ _ _); refine wpList_store_row rfl 48 (.tmp 1) (.tmp 84) rfl w.heap.size (rdC T1) rfl rfl 48 (rdC T0) HX2.out.g2.gf.row (by rw [size_rd]; rfl) rfl (one_rd _) ?_))
              go_roundw
              case rel => exact ⟨4, by omega, by omega, by go_num, by
                have h := HX7.out.g2
                rw [show hrow v0 v1 v2 T7 4 = (hrow v0 v1 v2 T7 3).setIfInBounds 5 (.int .i64 V) by rw [← HV.out]; rfl]
                show G2 w (cntN T7 (2 + 1)) H _ _
                rw [HT2.out, ← HE.out]
                exact h, HX7.out.sz⟩
              case measure => simp [intOf]
          · obtain rfl : j = 3 := by omega
            clear g1 g4 gj gm
            by_cases hk1 : T1.k = 0
            · have tk : ((T1.k : Int) == 0) = true := by simp; exact hk1
              cases B with
              | true =>
                have HE : Hid (T1 = T2) := HT.out
                have hwv := HWV.out
                clear HT hk1 HFAIL
                go_wp2_with (first
                  | ((with_reducible show wpList _ _ _ _ _ _); refine wpList_load_row rfl 48 (.tmp 15) rfl X rfl 48 (rdC T1) (0, 0) _ HXB.out Tryd.underlying48 rfl (by rw [size_rd]; rfl) ?_)
                  | ((with_reducible show wpList _ _ _ _ _ _); refine wpList_store_row rfl 48 (.tmp 1) (.tmp 84) rfl w.heap.size (rdC T1) rfl rfl 48 (rdC T0) HX2.out.g2.gf.row (by rw [size_rd]; rfl) rfl (one_rd _) ?_)
                  | (go_at_call 37; refine (HFINE.out _).mono ?_; rintro e w5 ⟨rfl, hb5⟩; have f5 := HX3.out.keep hb5; have HX5 := Lib.hid f5; have hz5 := frozen_of_row _ _ 6 _ _ f5.g2.hdr; have hc5 := cell_of_row _ _ 6 _ _ _ f5.g2.hdr; simp only [hrow, List.getElem?_toArray, List.getElem?_cons_zero, List.getElem?_cons_succ] at hc5; have HX7 := Lib.hid (f5.set HZL.out 6 (.int .i64 V)); clear hb5 f5))
                go_roundw
                case rel => exact ⟨5, by omega, by omega, by go_num, by
                  have h := HX7.out.g2
                  rw [show hrow v0 v1 v2 T7 5 = (hrow v0 v1 v2 T7 4).setIfInBounds 6 (.int .i64 V) by rw [← HV.out]; rfl]
                  show G2 w (cntN T7 (3 + 1)) H _ _
                  rw [HT2.out, ← HE.out]
                  exact h, HX7.out.sz⟩
                case measure => simp [intOf]
              | false =>
                have HE : Hid (failS T1 8 P = T2) := HT.out
                rw [HE.out] at HFAIL
                have hwv := HWV.out
                clear HT hk1
                go_wp2_with (first
                  | ((with_reducible show wpList _ _ _ _ _ _); refine wpList_load_row rfl 48 (.tmp 15) rfl X rfl 48 (rdC T1) (0, 0) _ HXB.out Tryd.underlying48 rfl (by rw [size_rd]; rfl) ?_)
                  | ((with_reducible show wpList _ _ _ _ _ _); refine wpList_store_row rfl 48 (.tmp 1) (.tmp 84) rfl w.heap.size (rdC T1) rfl rfl 48 (rdC T0) HX2.out.g2.gf.row (by rw [size_rd]; rfl) rfl (one_rd _) ?_)
                  | (go_at_call 37; refine (HFINE.out _).mono ?_; rintro e w5 ⟨rfl, hb5⟩; have f5 := HX3.out.keep hb5; have HX5 := Lib.hid f5; clear hb5 f5)
                  | ((with_reducible show wpList _ _ _ _ _ _); refine wpList_load_row rfl 48 (.tmp 1) rfl w.heap.size rfl 48 (rdC T1) (0, 0) _ HX5.out.g2.gf.row Tryd.underlying48 rfl (by rw [size_rd]; rfl) ?_)
                  | (go_at_call 51; refine (HFAIL.out _).mono ?_; rintro e w6 ⟨rfl, hb6⟩; have HX6 := Lib.hid (HX5.out.keep hb6); have f6 := HX6.out.row HZL.out T2; have hz5 := frozen_of_row _ _ 6 _ _ f6.g2.hdr; have hc5 := cell_of_row _ _ 6 _ _ _ f6.g2.hdr; simp only [hrow, List.getElem?_toArray, List.getElem?_cons_zero, List.getElem?_cons_succ] at hc5; have HX7 := Lib.hid (f6.set HZL.out 6 (.int .i64 V)); clear hb6 f6)
                  | ((with_reducible show wpList _ _ _ _ _ _); refine wpList_store_row rfl 48 (.tmp 1) (.tmp 98) rfl w.heap.size (rdC T2) rfl rfl 48 (rdC T1) HX6.out.g2.gf.row (by rw [size_rd]; rfl) rfl (one_rd _) ?_))
                go_roundw
                case rel => exact ⟨5, by omega, by omega, by go_num, by
                  have h := HX7.out.g2
                  rw [show hrow v0 v1 v2 T7 5 = (hrow v0 v1 v2 T7 4).setIfInBounds 6 (.int .i64 V) by rw [← HV.out]; rfl]
                  show G2 w (cntN T7 (3 + 1)) H _ _
                  rw [HT2.out]
                  exact h, HX7.out.sz⟩
                case measure => simp [intOf]
            · have tk : ((T1.k : Int) == 0) = false := by simp; exact hk1
              have HE : Hid (T1 = T2) := by
                show _ = _
                rw [← HT.out]; unfold needS
                split
                · rfl
                · exact (fail_had hk1).symm
              have hwv := HWV.out
              have f5 := HX3.out
              have HX7 := Lib.hid (f5.set HZL.out 6 (.int .i64 V))
              have hz5 := frozen_of_row _ _ 6 _ _ f5.g2.hdr; have hc5 := cell_of_row _ _ 6 _ _ _ f5.g2.hdr; simp only [hrow, List.getElem?_toArray, List.getElem?_cons_zero, List.getElem?_cons_succ] at hc5
              clear HT hk1 HFAIL HFINE f5
              go_wp2_with (first
                | ((with_reducible show wpList _ _ _ _ _ _); refine wpList_load_row rfl 48 (.tmp 15) rfl X rfl 48 (rdC T1) (0, 0) _ HXB.out Tryd.underlying48 rfl (by rw [size_rd]; rfl) ?_)
                | ((with_reducible show wpList _ _ _ _ _ _); refine wpList_store_row rfl 48 (.tmp 1) (.tmp 84) rfl w.heap.size (rdC T1) rfl rfl 48 (rdC T0) HX2.out.g2.gf.row (by rw [size_rd]; rfl) rfl (one_rd _) ?_))
              go_roundw
              case rel => exact ⟨5, by omega, by omega, by go_num, by
                have h := HX7.out.g2
                rw [show hrow v0 v1 v2 T7 5 = (hrow v0 v1 v2 T7 4).setIfInBounds 6 (.int .i64 V) by rw [← HV.out]; rfl]
                show G2 w (cntN T7 (3 + 1)) H _ _
                rw [HT2.out, ← HE.out]
                exact h, HX7.out.sz⟩
              case measure => simp [intOf]
        · obtain rfl : m = 5 := by omega
          have tm : decide ((5 : Int) ≤ 4) = false := by decide
          have HV5 : Hid (hdT t = ⟨v0, v1, v2, cntV T7 0, cntV T7 1, cntV T7 2, cntV T7 3⟩) := by
            show _ = _
            unfold hdT
            rw [HH.out.1, HH.out.2.1, HH.out.2.2.1, HH.out.2.2.2]
          have HS5 : Hid (rdS t = cntN T7 4) := by show _ = _; unfold rdS; rw [HH.out.2.2.2]
          have HG5 : Hid (G2 w (cntN T7 4) H (hdC ⟨v0, v1, v2, cntV T7 0, cntV T7 1, cntV T7 2, cntV T7 3⟩) wr) := hg
          obtain ⟨T8, hT8⟩ : ∃ T, cntN T7 4 = T := ⟨_, rfl⟩
          obtain ⟨h7, hh7⟩ : ∃ h : H7, (⟨v0, v1, v2, cntV T7 0, cntV T7 1, cntV T7 2, cntV T7 3⟩ : H7) = h := ⟨_, rfl⟩
          rw [hT8] at HS5 HG5
          rw [hh7] at HV5 HG5
          have HEND : Hid (∀ e w', VP T8 (if T8.k = 0 then h7 else hdZ) w e w' → RNumPost (rdS t) (.agg (hdC (rdV t))) w e w') := by
            intro e w' h
            have e1 : rdV t = if T8.k = 0 then h7 else hdZ := by unfold rdV; rw [HS5.out, HV5.out]
            rw [e1, HS5.out]
            exact h
          clear hg hs h1 h5 hm hT8 hh7 HS5 HV5 HH
          by_cases hkz : T8.k = 0
          · rw [if_pos hkz] at HEND
            have HKZ := Lib.hid hkz
            clear hkz
            go_upto_if 999 with ((with_reducible show Code.wp _ (Code.seq _ _) (bodyPost _ _ _) _ _); exact tail_ok w wr T8 H h7 _ _ _ _ _ _ _ _ _ _ _ _ _ _ _ _ _ _ _ _ _ _ _ _ _ _ _ _ _ _ _ _ _ _ _ _ _ _ _ _ _ _ _ _ _ _ _ _ _ _ _ _ _ _ _ _ _ _ _ _ _ _ _ _ _ _ _ _ _ _ _ _ _ _ _ _ _ _ _ _ _ _ _ _ _ _ _ _ _ _ _ _ _ _ _ _ _ _ _ _ _ _ _ _ _ _ _ _ _ _ _ _ _ _ _ _ _ _ _ _ _ _ HG5.out HKZ.out _ HEND.out)
          · rw [if_neg hkz] at HEND
            have HKZ := Lib.hid hkz
            clear hkz
            go_upto_if 999 with ((with_reducible show Code.wp _ (Code.seq _ _) (bodyPost _ _ _) _ _); exact tail_bad w wr T8 H h7 _ _ _ _ _ _ _ _ _ _ _ _ _ _ _ _ _ _ _ _ _ _ _ _ _ _ _ _ _ _ _ _ _ _ _ _ _ _ _ _ _ _ _ _ _ _ _ _ _ _ _ _ _ _ _ _ _ _ _ _ _ _ _ _ _ _ _ _ _ _ _ _ _ _ _ _ _ _ _ _ _ _ _ _ _ _ _ _ _ _ _ _ _ _ _ _ _ _ _ _ _ _ _ _ _ _ _ _ _ _ _ _ _ _ _ _ _ _ _ _ _ _ HG5.out HKZ.out _ HEND.out)
end Go.Proofs.YteadednglodgpaaDoor.Hdr
