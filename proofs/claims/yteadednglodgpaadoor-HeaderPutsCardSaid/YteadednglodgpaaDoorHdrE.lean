
/- What package header's Read reads of a reader. Condition: the variables hold what the program lays there; the reader stands within a text of at most 2 to the power 40 bytes. -/

import Derived.Test.YteadednglodgpaaDoorHdrD

import Derived.Deep.RegionHeld3

import Derived.BigRegion

import Derived.IntWalk

namespace Go.Proofs.YteadednglodgpaaDoor.Hdr

open Go.RowKit Go.PlainAid Go.Proofs.YteadednglodgpaaDoor.Oct Go.Proofs.YteadednglodgpaaDoor.Flt Go.Proofs.YteadednglodgpaaDoor.Rdr

set_option linter.unusedVariables false

set_option linter.unusedSimpArgs false

/-- What a header begins with. -/
def mag : ByteArray := ⟨#[67, 87, 77, 49]⟩
def magS (t : St) (j : Nat) : St := needS ((numV t 1 : Int) == bt mag j) (numS t 1) 3 t.p
def magN (t : St) : Nat → St
  | 0 => t
  | j + 1 => magS (magN t j) j
theorem ok_mag {t : St} (h : Ok t) : ∀ j, Ok (magN t j)
  | 0 => h
  | j + 1 => ok_need (ok_num (ok_mag h j) _) _ _ _
def s1 (t : St) : St := magN (secS t 1) 4
def s2 (t : St) : St := numS (s1 t) 4
def s3 (t : St) : St := numS (s2 t) 8
def s4 (t : St) : St := numS (s3 t) 1
/-- The reader behind a header. -/
def rdS (t : St) : St := cntN (s4 t) 4
def hdT (t : St) : H7 := ⟨numV (s1 t) 4, numV (s2 t) 8, numV (s3 t) 1, cntV (s4 t) 0, cntV (s4 t) 1, cntV (s4 t) 2, cntV (s4 t) 3⟩
def hdZ : H7 := ⟨0, 0, 0, 0, 0, 0, 0⟩
/-- The header that is read. -/
def rdV (t : St) : H7 := if (rdS t).k = 0 then hdT t else hdZ
theorem ok_sec {t : St} (h : Ok t) (n : Int) : Ok (secS t n) := h
theorem ok_s1 {t : St} (h : Ok t) : Ok (s1 t) := ok_mag (ok_sec h 1) 4
theorem ok_rd {t : St} (h : Ok t) : Ok (rdS t) := ok_cnt (ok_num (ok_num (ok_num (ok_s1 h) _) _) _) 4

/-- A reader, the result's block as it was laid, the header's block. -/
structure RF (g : Nat) (T : St) (w : World) (H : Nat) (hx : Array Value) (W : World) : Prop where
  rd : IsRdr W g T
  res : W.heap[w.heap.size]? = some (.cells hd0 26 (0, 0))
  hdr : W.heap[H]? = some (.cells hx 26 (0, 0))
  just : Just g w W
  gl : g < w.heap.size
  hl : w.heap.size < H
theorem RF.call {g : Nat} {T T' : St} {w W w' : World} {H : Nat} {hx : Array Value} (f : RF g T w H hx W) (hr : IsRdr w' g T') (j : Just g W w') : RF g T' w H hx w' := by
  have h1 := f.gl
  have h2 := f.hl
  exact ⟨hr, (j.block _ (lt_of_block f.res) (by omega)).trans f.res, (j.block _ (lt_of_block f.hdr) (by omega)).trans f.hdr, f.just.trans j, h1, h2⟩
theorem RF.set {g : Nat} {T : St} {w W : World} {H : Nat} {hx : Array Value} (f : RF g T w H hx W) (o : Nat) (v : Value) : RF g T w H (hx.setIfInBounds o v) (W.setCell ⟨H, o, none⟩ v) := by
  have h1 := f.gl
  have h2 := f.hl
  exact ⟨IsRdr.poke f.rd f.hdr (by decide) (by decide) o v, (heap_setCell_other W _ _ _ (by show w.heap.size ≠ H; omega)).trans f.res, heap_setCell_same W _ _ _ _ _ f.hdr, Just.poke f.just H o v (by omega), h1, h2⟩
theorem RF.setRes {g : Nat} {T : St} {w W : World} {H : Nat} {hx : Array Value} (f : RF g T w H hx W) (cs : Array Value) : IsRdr (W.setRow w.heap.size cs) g T ∧ (W.setRow w.heap.size cs).heap[w.heap.size]? = some (.cells cs 26 (0, 0)) ∧ Just g w (W.setRow w.heap.size cs) :=
  ⟨IsRdr.pokeRow f.rd f.res (by decide) (by decide) cs, setRow_heap W _ _ cs _ _ f.res, Just.pokeRow f.just _ _ (Nat.le_refl _)⟩
theorem RF.below {g : Nat} {T : St} {w W w' : World} {H : Nat} {hx : Array Value} (f : RF g T w H hx W) (b : Below W.heap.size W w') : RF g T w H hx w' := f.call (f.rd.kept b) (Just.of_below b)
theorem RF.drew {g : Nat} {T : St} {w W : World} {H : Nat} {hx : Array Value} (f : RF g T w H hx W) : RF g T w H hx W.drew := ⟨f.rd.drewN 1, f.res, f.hdr, f.just.drew, f.gl, f.hl⟩
def MRel (g : Nat) (t : St) (w : World) (i : Value) (wr : World) : Prop :=
  ∃ k : Nat, k ≤ 4 ∧ i = .int .i64 k ∧ IsRdr wr g (magN t k) ∧ wr.heap[w.heap.size]? = some (.cells hd0 26 (0, 0)) ∧ Just g w wr
def RdPost (g : Nat) (T : St) (h : H7) (w : World) (e : Ending) (w' : World) : Prop :=
  ∃ x, e = .returned (.tuple #[.agg (hdC h), x]) ∧ Wrong w' x T.k T.fs T.fa ∧ IsRdr w' g T ∧ Just g w w'
theorem bt_mag (k : Nat) : 0 ≤ bt mag k ∧ bt mag k ≤ 255 := ⟨bt_nonneg _ _, by have := bt_le mag k; omega⟩
set_option maxRecDepth 8000 in
set_option maxHeartbeats 3200000 in
theorem rd_any (g : Nat) (t : St) (w : World) (hl : Laid w) (h : IsRdr w g t) (ho : Ok t) :
    Calls Tryd.prog 15 #[.pointer (some ⟨g, 0, none⟩)] w (RdPost g (rdS t) (rdV t) w) := by
  have HL := Lib.hid hl
  have HR := Lib.hid h
  have HO := Lib.hid ho
  have hgl := h.lt
  have HG : Hid (g < w.heap.size) := hgl
  have hb := get_bt mag
  unfold mag at hb
  clear hl h ho hgl
  go_enter Tryd.func15, Tryd.ntmps15
  go_wp2_with fail
  refine (enter_any g t 1 _ (HR.out.kept ((Below.refl _ _).alloc (Nat.le_refl _) _))).mono ?_
  rintro e w1 ⟨rfl, hr1, hj1⟩
  have HR1 := Lib.hid hr1
  have HZ1 : Hid (w1.heap[w.heap.size]? = some (.cells hd0 26 (0, 0))) := (hj1.block _ (by simp) (by have := HG.out; omega)).trans (heap_alloc_new _ _)
  have HJ1 := Lib.hid ((Just.of_below ((Below.refl _ _).alloc (Nat.le_refl _) _)).trans hj1)
  clear hr1 hj1
  obtain ⟨t1, ht1⟩ : ∃ t1, secS t 1 = t1 := ⟨_, rfl⟩
  have HT1 := Lib.hid ht1
  have HO1 : Hid (Ok t1) := by show Ok t1; rw [← ht1]; exact ok_sec HO.out 1
  rw [ht1] at HR1
  clear ht1
  go_wp2
  go_loopw [11] (fun i wr => MRel g t1 w i wr) (fun i _ => 4 - (intOf i).toNat)
  case atStart => exact ⟨0, by omega, rfl, HR1.out, HZ1.out, HJ1.out⟩
  case round =>
    obtain ⟨k, hk, rfl, hr, hz, hj⟩ := hrel
    have HR0 := Lib.hid hr
    have HZ0 := Lib.hid hz
    have HJ0 := Lib.hid hj
    have HLr := Lib.hid (HL.out.just HR.out hj)
    have HOk := Lib.hid (ok_mag HO1.out k)
    clear hr hz hj
    by_cases hlt : k < 4
    · have HT : Hid (needS ((numV (magN t1 k) 1 : Int) == bt mag k) (numS (magN t1 k) 1) 3 (magN t1 k).p = magN t1 (k + 1)) := rfl
      have HU : Hid (∀ w', Names w' → IsRdr w' g (magN t1 k) → Calls Tryd.prog 45 #[.pointer (some ⟨g, 0, none⟩)] w' (IPost .i64 g (numS (magN t1 k) 1) (numV (magN t1 k) 1) w')) := fun w' hn hr => u8_any g _ w' hn hr HOk.out
      have HP := Lib.hid (place_any g (magN t1 k) wr HR0.out)
      have hbk := bt_mag k
      have hw8 : IntKind.i64.wrap (bt mag k) = bt mag k := IntWalk.i64_in _ (by omega)
      have ix : ∀ w, (Instr.index 9 (.string ⟨#[67, 87, 77, 49]⟩) (.int .i64 k)).run Tryd.prog w = .ok (.int .u8 (bt mag k)) w := fun w => by
        rcases (show k = 0 ∨ k = 1 ∨ k = 2 ∨ k = 3 by omega) with rfl | rfl | rfl | rfl <;> kernel_rfl
      obtain ⟨M, hM⟩ : ∃ M, bt mag k = M := ⟨_, rfl⟩
      rw [hM] at HT hw8 ix
      obtain ⟨T1, hT1⟩ : ∃ T1, numS (magN t1 k) 1 = T1 := ⟨_, rfl⟩
      obtain ⟨P, hP⟩ : ∃ P, (magN t1 k).p = P := ⟨_, rfl⟩
      obtain ⟨V, hV⟩ : ∃ V, numV (magN t1 k) 1 = V := ⟨_, rfl⟩
      obtain ⟨B, hB⟩ : ∃ B, ((V : Int) == M) = B := ⟨_, rfl⟩
      rw [hT1, hV, hP, hB] at HT
      rw [hT1, hV] at HU
      rw [hP] at HP
      obtain ⟨T2, hT2⟩ : ∃ T2, magN t1 (k + 1) = T2 := ⟨_, rfl⟩
      obtain ⟨T0, hT0⟩ : ∃ T0, magN t1 k = T0 := ⟨_, rfl⟩
      have HT2 := Lib.hid hT2
      rw [hT2] at HT
      rw [hT0] at HU HR0
      have hlt4 : (k : Int) < 4 := by omega
      clear hT2 hT0 HOk hT1 hP hV hk hb HO1 HT1 HO hbk hM
      go_wp2_with (go_at_call 20; refine HP.out.mono ?_; rintro e w' ⟨rfl, rfl⟩)
      go_region_with
        (first
          | (go_at_call 45; refine (HU.out _ (by exact HLr.out.names) (by exact HR0.out.drewN 1)).mono ?_; rintro e w2 ⟨rfl, hr2, hj2⟩; have HR2 := Lib.hid hr2; have hjj := ((Just.refl g wr).drewN 1).trans hj2; have HJ2 := Lib.hid ((HJ0.out).trans hjj); have HL2 := Lib.hid (HL.out.just HR.out HJ2.out); have HZ2 := Lib.hid ((hjj.block _ (lt_of_block HZ0.out) (by have := HG.out; omega)).trans HZ0.out); clear hr2 hj2 hjj)
          | (go_at_call 44; (try rw [hw8]); (try rw [hB]); refine (need_any g B T1 3 P _ HL2.out.names (by omega) HR2.out).mono ?_; rintro e w3 ⟨rfl, hr3, hj3⟩; rw [HT.out] at hr3; have HR3 := Lib.hid hr3; have HJ3 := Lib.hid (HJ2.out.trans hj3); have HZ3 := Lib.hid ((hj3.block _ (lt_of_block HZ2.out) (by have := HG.out; omega)).trans HZ2.out); clear hr3 hj3))
      all_goals
        go_wp2
        go_roundw
        case rel => exact ⟨k + 1, by omega, by go_num, by rw [HT2.out]; exact HR3.out, HZ3.out, HJ3.out⟩
        case measure => simp [intOf]; omega
    · obtain rfl : k = 4 := by omega
      obtain ⟨T4, hT4⟩ : ∃ T4, magN t1 4 = T4 := ⟨_, rfl⟩
      have HT4 : Hid (s1 t = T4) := by show _ = _; rw [← hT4]; unfold s1; rw [HT1.out]
      have HO4 : Hid (Ok T4) := by show Ok _; rw [← hT4]; exact HOk.out
      rw [hT4] at HR0
      clear hT4 HOk hk hlt hb
      have hF0 : RF g T4 w wr.heap.size hd0 (wr.alloc (.cells hd0 26)) := by
        have hb := (Below.refl wr.heap.size wr).alloc (Nat.le_refl _) (.cells hd0 26)
        exact ⟨HR0.out.kept hb, (hb.block _ (lt_of_block HZ0.out)).trans HZ0.out, heap_alloc_new _ _, HJ0.out.trans (Just.of_below hb), HG.out, lt_of_block HZ0.out⟩
      have HF0 := Lib.hid hF0
      have HLJ : Hid (∀ w', Just g w w' → Laid w') := fun w' j => HL.out.just HR.out j
      have HU1 := Lib.hid (u32_any g T4 _ (HLJ.out _ hF0.just).names hF0.rd HO4.out)
      have HO5 := Lib.hid (ok_num HO4.out 4)
      have HO6 := Lib.hid (ok_num HO5.out 8)
      have HO7 := Lib.hid (ok_num HO6.out 1)
      obtain ⟨v0, hv0⟩ : ∃ v, numV T4 4 = v := ⟨_, rfl⟩
      obtain ⟨T5, hT5⟩ : ∃ T, numS T4 4 = T := ⟨_, rfl⟩
      have HV0 := Lib.hid hv0
      have HT5 := Lib.hid hT5
      rw [hv0, hT5] at HU1
      rw [hT5] at HO5 HO6 HO7
      obtain ⟨v1, hv1⟩ : ∃ v, numV T5 8 = v := ⟨_, rfl⟩
      obtain ⟨T6, hT6⟩ : ∃ T, numS T5 8 = T := ⟨_, rfl⟩
      have HV1 := Lib.hid hv1
      have HT6 := Lib.hid hT6
      rw [hT6] at HO6 HO7
      obtain ⟨v2, hv2⟩ : ∃ v, numV T6 1 = v := ⟨_, rfl⟩
      obtain ⟨T7, hT7⟩ : ∃ T, numS T6 1 = T := ⟨_, rfl⟩
      have HV2 := Lib.hid hv2
      have HT7 := Lib.hid hT7
      rw [hT7] at HO7
      clear hF0 hv0 hT5 hv1 hT6 hv2 hT7
      unfold hd0 at HU1
      go_wp2_with fail
      refine HU1.out.mono ?_
      rintro e w4 ⟨rfl, hr4, hj4⟩
      have F4 := HF0.out.call hr4 hj4
      have hc4 := cell_of_row w4 _ 0 _ _ _ F4.hdr
      have hz4 := frozen_of_row w4 _ 0 _ _ F4.hdr
      have F4b := F4.set 0 (.int .u32 v0)
      have HU2 := Lib.hid (u64_any g T5 _ (HLJ.out _ F4b.just).names F4b.rd HO5.out)
      rw [HV1.out, HT6.out] at HU2
      have HF4 := Lib.hid F4b
      simp only [hd0, List.setIfInBounds_toArray, List.set_cons_zero, List.set_cons_succ, List.getElem?_toArray, List.getElem?_cons_zero, List.getElem?_cons_succ] at HF4 hc4
      clear F4 F4b hr4 hj4
      go_wp2_with fail
      refine HU2.out.mono ?_
      rintro e w5 ⟨rfl, hr5, hj5⟩
      have F5 := HF4.out.call hr5 hj5
      have hc5 := cell_of_row w5 _ 1 _ _ _ F5.hdr
      have hz5 := frozen_of_row w5 _ 1 _ _ F5.hdr
      have F5b := F5.set 1 (.int .u64 v1)
      have HU3 := Lib.hid (u8_any g T6 _ (HLJ.out _ F5b.just).names F5b.rd HO6.out)
      rw [HV2.out, HT7.out] at HU3
      have HF5 := Lib.hid F5b
      simp only [List.setIfInBounds_toArray, List.set_cons_zero, List.set_cons_succ, List.getElem?_toArray, List.getElem?_cons_zero, List.getElem?_cons_succ] at HF5 hc5
      clear F5 F5b hr5 hj5
      go_wp2_with fail
      refine HU3.out.mono ?_
      rintro e w6 ⟨rfl, hr6, hj6⟩
      have F6 := HF5.out.call hr6 hj6
      have hc6 := cell_of_row w6 _ 2 _ _ _ F6.hdr
      have hz6 := frozen_of_row w6 _ 2 _ _ F6.hdr
      have F6b := F6.set 2 (.int .i64 v2)
      have HU4 := Lib.hid (counts_any g T7 _ (HLJ.out _ F6b.just) F6b.rd HO7.out)
      have HF6 := Lib.hid F6b
      simp only [List.setIfInBounds_toArray, List.set_cons_zero, List.set_cons_succ, List.getElem?_toArray, List.getElem?_cons_zero, List.getElem?_cons_succ] at HF6 hc6
      clear F6 F6b hr6 hj6
      unfold CPost at HU4
      obtain ⟨n0, hn0⟩ : ∃ n, cntV T7 0 = n := ⟨_, rfl⟩
      obtain ⟨n1, hn1⟩ : ∃ n, cntV T7 1 = n := ⟨_, rfl⟩
      obtain ⟨n2, hn2⟩ : ∃ n, cntV T7 2 = n := ⟨_, rfl⟩
      obtain ⟨n3, hn3⟩ : ∃ n, cntV T7 3 = n := ⟨_, rfl⟩
      have HN : Hid (cntV T7 0 = n0 ∧ cntV T7 1 = n1 ∧ cntV T7 2 = n2 ∧ cntV T7 3 = n3) := ⟨hn0, hn1, hn2, hn3⟩
      obtain ⟨T8, hT8⟩ : ∃ T, cntN T7 4 = T := ⟨_, rfl⟩
      have HT8 := Lib.hid hT8
      rw [hn0, hn1, hn2, hn3, hT8] at HU4
      clear hn0 hn1 hn2 hn3 hT8
      go_wp2_with fail
      refine HU4.out.mono ?_
      rintro e w7 ⟨rfl, hr7, hj7⟩
      have F7 := HF6.out.call hr7 hj7
      have hb8 : Below w7.heap.size w7 ((w7.alloc (.cells #[.int .i64 0, .int .i64 0, .int .i64 0, .int .i64 0] 93)).setRow w7.heap.size #[.int .i64 n0, .int .i64 n1, .int .i64 n2, .int .i64 n3]) :=
        below_set2 ((Below.refl _ _).alloc (Nat.le_refl _) _) (Nat.le_refl _)
      have F8 := F7.below hb8
      have hC8 := setRow_heap _ _ _ #[.int .i64 n0, .int .i64 n1, .int .i64 n2, .int .i64 n3] _ _ (heap_alloc_new w7 (.cells #[.int .i64 0, .int .i64 0, .int .i64 0, .int .i64 0] 93))
      have HO9 := Lib.hid (one_cnt n0 n1 n2 n3)
      have hne : w7.heap.size ≠ wr.heap.size := by have := lt_of_block F7.hdr; omega
      clear F7 hb8 hr7 hj7
      go_wp2_with ((with_reducible show wpList _ _ _ _ _ _); refine wpList_store_row rfl 93 (.tmp 7) (.tmp 36) rfl w7.heap.size #[.int .i64 n0, .int .i64 n1, .int .i64 n2, .int .i64 n3] rfl rfl 93 #[.int .i64 0, .int .i64 0, .int .i64 0, .int .i64 0] (heap_alloc_new _ _) (by rw [size_cnt]; rfl) rfl HO9.out ?_)
      obtain ⟨W, hW⟩ : ∃ W, W = (w7.alloc (.cells #[.int .i64 0, .int .i64 0, .int .i64 0, .int .i64 0] 93)).setRow w7.heap.size #[.int .i64 n0, .int .i64 n1, .int .i64 n2, .int .i64 n3] := ⟨_, rfl⟩
      rw [← hW] at F8 hC8
      rw [← hW]
      obtain ⟨C, hC⟩ : ∃ C, w7.heap.size = C := ⟨_, rfl⟩
      rw [hC] at hC8 hne
      rw [hC]
      clear hW hC
      have hk0 := cell_of_row W _ 0 _ _ _ hC8
      have hk1 := cell_of_row W _ 1 _ _ _ hC8
      have hk2 := cell_of_row W _ 2 _ _ _ hC8
      have hk3 := cell_of_row W _ 3 _ _ _ hC8
      have hh3 := cell_of_row W _ 3 _ _ _ F8.hdr
      have hh4 := cell_of_row W _ 4 _ _ _ F8.hdr
      have hh5 := cell_of_row W _ 5 _ _ _ F8.hdr
      have hh6 := cell_of_row W _ 6 _ _ _ F8.hdr
      have hz3 := frozen_of_row W _ 3 _ _ F8.hdr
      have hz4 := frozen_of_row W _ 4 _ _ F8.hdr
      have hz5 := frozen_of_row W _ 5 _ _ F8.hdr
      have hz6 := frozen_of_row W _ 6 _ _ F8.hdr
      have F9 := (((F8.set 3 (.int .i64 n0)).set 4 (.int .i64 n1)).set 5 (.int .i64 n2)).set 6 (.int .i64 n3)
      simp only [List.setIfInBounds_toArray, List.set_cons_zero, List.set_cons_succ, List.getElem?_toArray, List.getElem?_cons_zero, List.getElem?_cons_succ] at F9
      have HF9 := Lib.hid F9
      simp only [List.getElem?_toArray, List.getElem?_cons_zero, List.getElem?_cons_succ] at hk0 hk1 hk2 hk3 hh3 hh4 hh5 hh6
      clear F8 hC8 F9
      have hne' : wr.heap.size ≠ C := fun h => hne h.symm
      go_region_held3 (fun w' => w'.cell? ⟨C, 0, none⟩ = some (.int .i64 n0) ∧ w'.cell? ⟨C, 1, none⟩ = some (.int .i64 n1) ∧ w'.cell? ⟨C, 2, none⟩ = some (.int .i64 n2) ∧ w'.cell? ⟨C, 3, none⟩ = some (.int .i64 n3)) (first | (go_keep; done)) (fail)
      obtain ⟨X, hX⟩ : ∃ X, X = ((((W.setCell ⟨wr.heap.size, 3, none⟩ (.int .i64 n0)).setCell ⟨wr.heap.size, 4, none⟩ (.int .i64 n1)).setCell ⟨wr.heap.size, 5, none⟩ (.int .i64 n2)).setCell ⟨wr.heap.size, 6, none⟩ (.int .i64 n3)).drew := ⟨_, rfl⟩
      have HFX : Hid (RF g T8 w wr.heap.size #[.int .u32 v0, .int .u64 v1, .int .i64 v2, .int .i64 n0, .int .i64 n1, .int .i64 n2, .int .i64 n3] X) := by rw [hX]; exact HF9.out.drew
      rw [← hX]
      clear hX HF9
      have HO26 := Lib.hid (one_hd ⟨v0, v1, v2, n0, n1, n2, n3⟩)
      have HS1 : Hid (s4 t = T7) := by show _ = _; unfold s4 s3 s2; rw [HT4.out, HT5.out, HT6.out, HT7.out]
      have HS2 : Hid (rdS t = T8) := by show _ = _; unfold rdS; rw [HS1.out]; exact HT8.out
      have HV : Hid (hdT t = ⟨v0, v1, v2, n0, n1, n2, n3⟩) := by
        show _ = _
        unfold hdT s3 s2
        rw [HS1.out, HT4.out, HT5.out, HT6.out, HV0.out, HV1.out, HV2.out, HN.out.1, HN.out.2.1, HN.out.2.2.1, HN.out.2.2.2]
      have HE := Lib.hid (err_any g T8 X HFX.out.rd)
      have HRES := Lib.hid (fun cs => HFX.out.setRes cs)
      by_cases hk8 : T8.k = 0
      · have HRV : Hid (rdV t = ⟨v0, v1, v2, n0, n1, n2, n3⟩) := by show _ = _; unfold rdV; rw [HS2.out, if_pos hk8]; exact HV.out
        have HEO := Lib.hid (err_ok g T8 X HFX.out.rd hk8)
        have HWR : Hid (∀ w', Wrong w' .nilIface T8.k T8.fs T8.fa) := by
          intro w'
          obtain ⟨x, _, hx⟩ := HFX.out.rd
          rcases hx with ⟨h1, h2, h3, _⟩ | ⟨h1, _⟩
          · exact .inl ⟨h1, h2, h3, rfl⟩
          · omega
        clear HE hk8
        go_wp2_with (first
          | (go_at_call 49; refine HEO.out.mono ?_; rintro e w' ⟨rfl, rfl⟩)
          | ((with_reducible show wpList _ _ _ _ _ _); refine wpList_load_row rfl 26 (.tmp 6) rfl wr.heap.size rfl 26 _ (0, 0) _ HFX.out.hdr Tryd.underlying26 rfl (by rw [size_hd]; rfl) ?_)
          | ((with_reducible show wpList _ _ _ _ _ _); refine wpList_store_row rfl 26 (.tmp 2) (.tmp 55) rfl w.heap.size #[.int .u32 v0, .int .u64 v1, .int .i64 v2, .int .i64 n0, .int .i64 n1, .int .i64 n2, .int .i64 n3] rfl rfl 26 hd0 HFX.out.res (by rw [size_hd]; rfl) rfl HO26.out ?_))
        refine bodyPost_ret (v := .tuple #[.agg #[.int .u32 v0, .int .u64 v1, .int .i64 v2, .int .i64 n0, .int .i64 n1, .int .i64 n2, .int .i64 n3], .nilIface]) (results_row_tmp (fn := Tryd.f15) (p := 2) (u := 3) (ty := 26) rfl _ _ w.heap.size 26 _ (0, 0) _ rfl (HRES.out _).2.1 Tryd.underlying26 rfl (by rw [size_hd]; rfl)) rfl ?_
        rw [HRV.out, HS2.out]
        exact ⟨.nilIface, rfl, HWR.out _, (HRES.out _).1, (HRES.out _).2.2⟩
      · have HRV : Hid (rdV t = hdZ) := by show _ = _; unfold rdV; rw [HS2.out, if_neg hk8]
        have HK8 := Lib.hid hk8
        clear hk8
        go_wp2_with fail
        refine HE.out.mono ?_
        rintro e w' ⟨x, hw, rfl, rfl⟩
        obtain ⟨u, y, rfl⟩ : ∃ u y, x = .iface u y := by
          rcases hw with ⟨h1, _⟩ | ⟨_, _, h3⟩
          · exact absurd h1 HK8.out
          · exact err_of h3
        have HWR : Hid (∀ cs, Wrong (X.setRow w.heap.size cs) (.iface u y) T8.k T8.fs T8.fa) := by
          intro cs
          exact hw.kept fun k cs' hk => setRow_other _ _ _ _ (wrap_ne HFX.out.res (by decide) hk)
        clear HE hw
        go_wp2_with ((with_reducible show wpList _ _ _ _ _ _); refine wpList_store_row rfl 26 (.tmp 2) (.tmp 53) rfl w.heap.size hd0 rfl rfl 26 hd0 HFX.out.res (by rw [size_hd]; rfl) rfl (one_hd hdZ) ?_)
        refine bodyPost_ret (v := .tuple #[.agg hd0, .iface u y]) (results_row_tmp (fn := Tryd.f15) (p := 2) (u := 3) (ty := 26) rfl _ _ w.heap.size 26 _ (0, 0) _ rfl (HRES.out _).2.1 Tryd.underlying26 rfl (by rw [size_hd]; rfl)) rfl ?_
        rw [HRV.out, HS2.out]
        exact ⟨.iface u y, rfl, HWR.out _, (HRES.out _).1, (HRES.out _).2.2⟩
end Go.Proofs.YteadednglodgpaaDoor.Hdr
