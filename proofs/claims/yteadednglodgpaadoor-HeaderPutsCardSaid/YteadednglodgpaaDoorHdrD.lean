
/- What package header's counts reads of a reader; the words for what a header's bytes say. Condition: the variables hold what the program lays there. -/

import Derived.Test.YteadednglodgpaaDoorHdrB

namespace Go.Proofs.YteadednglodgpaaDoor.Hdr

open Go.RowKit Go.PlainAid Go.Proofs.YteadednglodgpaaDoor.Oct Go.Proofs.YteadednglodgpaaDoor.Flt Go.Proofs.YteadednglodgpaaDoor.Rdr

set_option linter.unusedVariables false

/-- Need, whether so or not. -/
def needS (b : Bool) (t : St) (k a : Int) : St := if b then t else failS t k a
theorem need_any (g : Nat) (b : Bool) (t : St) (k a : Int) (w : World) (hn : Names w) (hk : -9223372036854775808 ≤ k ∧ k ≤ 9223372036854775807) (h : IsRdr w g t) :
    Calls Tryd.prog 44 #[.pointer (some ⟨g, 0, none⟩), .bool b, .int .i64 k, .int .i64 a] w (NPost g (needS b t k a) w) := by
  cases b with
  | true =>
    refine (need_ok g t k a w h).mono ?_
    rintro e w' ⟨rfl, rfl⟩
    exact ⟨rfl, h, Just.refl _ _⟩
  | false => exact need_no g t k a w hn hk h
theorem ok_need {t : St} (h : Ok t) (b : Bool) (k a : Int) : Ok (needS b t k a) := by
  unfold needS; split
  · exact h
  · exact ok_fail h k a
/-- How many bytes the count at place i has. -/
def wide (i : Nat) : Nat := if i < 2 then 1 else 2
/-- The count at place i is read. -/
def cntS (t : St) (i : Nat) : St := needS (fineB i (numV t (wide i))) (numS t (wide i)) 8 t.p
def cntN (t : St) : Nat → St
  | 0 => t
  | j + 1 => cntS (cntN t j) j
def cntV (t : St) (j : Nat) : Nat := numV (cntN t j) (wide j)
theorem ok_cnt {t : St} (h : Ok t) : ∀ j, Ok (cntN t j)
  | 0 => h
  | j + 1 => ok_need (ok_num (ok_cnt h j) _) _ _ _
theorem Just.poke {g : Nat} {a w : World} (h : Just g a w) (b o : Nat) (v : Value) (hb : a.heap.size ≤ b) : Just g a (w.setCell ⟨b, o, none⟩ v) := by
  have x := (Below.refl 0 w).setCell (p := ⟨b, o, none⟩) (Nat.zero_le _) v
  exact ⟨x.os.trans h.os, x.tape.trans h.tape, x.output.trans h.output, Nat.le_trans h.size x.size, fun k hk hg => (heap_setCell_other w _ k v (by show k ≠ b; omega)).trans (h.block k hk hg)⟩
theorem Just.pokeRow {g : Nat} {a w : World} (h : Just g a w) (b : Nat) (cs : Array Value) (hb : a.heap.size ≤ b) : Just g a (w.setRow b cs) :=
  ⟨h.os, h.tape, h.output, by have := h.size; simpa using this, fun k hk hg => (setRow_other _ _ _ _ (by omega)).trans (h.block k hk hg)⟩
theorem poke_ne {w : World} {g b : Nat} {t : St} {cs : Array Value} {T : TypeId} {fr : Nat × Nat} (h : IsRdr w g t) (hb : w.heap[b]? = some (.cells cs T fr)) (h1 : T ≠ 95) : g ≠ b := by
  rintro rfl
  obtain ⟨x, hx, _⟩ := h
  rw [hb] at hx
  simp only [Option.some.injEq, Obj.cells.injEq] at hx
  exact h1 hx.2.1
theorem wrap_ne {w : World} {b : Nat} {cs cs' : Array Value} {T : TypeId} {fr : Nat × Nat} (hb : w.heap[b]? = some (.cells cs T fr)) (h2 : T ≠ 89) {k : Nat} (hk : w.heap[k]? = some (.cells cs' 89 (0, 0))) : k ≠ b := by
  rintro rfl
  rw [hb] at hk
  simp only [Option.some.injEq, Obj.cells.injEq] at hk
  exact h2 hk.2.1
theorem IsRdr.poke {w : World} {g b : Nat} {t : St} {cs : Array Value} {T : TypeId} {fr : Nat × Nat} (h : IsRdr w g t) (hb : w.heap[b]? = some (.cells cs T fr)) (h1 : T ≠ 95) (h2 : T ≠ 89) (o : Nat) (v : Value) : IsRdr (w.setCell ⟨b, o, none⟩ v) g t := by
  have hne := poke_ne h hb h1
  obtain ⟨x, hx, hw⟩ := h
  exact ⟨x, (heap_setCell_other w _ g v hne).trans hx, hw.kept fun k cs' hk => heap_setCell_other w _ k v (wrap_ne hb h2 hk)⟩
theorem IsRdr.pokeRow {w : World} {g b : Nat} {t : St} {cs : Array Value} {T : TypeId} {fr : Nat × Nat} (h : IsRdr w g t) (hb : w.heap[b]? = some (.cells cs T fr)) (h1 : T ≠ 95) (h2 : T ≠ 89) (v : Array Value) : IsRdr (w.setRow b v) g t := by
  have hne := poke_ne h hb h1
  obtain ⟨x, hx, hw⟩ := h
  exact ⟨x, (setRow_other _ _ _ _ hne).trans hx, hw.kept fun k cs' hk => setRow_other _ _ _ _ (wrap_ne hb h2 hk)⟩
def arrN (t : St) : Nat → Array Value
  | 0 => #[.int .i64 0, .int .i64 0, .int .i64 0, .int .i64 0]
  | 1 => #[.int .i64 (cntV t 0), .int .i64 0, .int .i64 0, .int .i64 0]
  | 2 => #[.int .i64 (cntV t 0), .int .i64 (cntV t 1), .int .i64 0, .int .i64 0]
  | 3 => #[.int .i64 (cntV t 0), .int .i64 (cntV t 1), .int .i64 (cntV t 2), .int .i64 0]
  | _ => #[.int .i64 (cntV t 0), .int .i64 (cntV t 1), .int .i64 (cntV t 2), .int .i64 (cntV t 3)]
def CRel (g : Nat) (t : St) (w : World) (i : Value) (wr : World) : Prop :=
  ∃ k : Nat, k ≤ 4 ∧ i = .int .i64 k ∧ IsRdr wr g (cntN t k) ∧ wr.heap[w.heap.size]? = some (.cells (arrN t 0) 93 (0, 0)) ∧ wr.heap[w.heap.size + 1]? = some (.cells (arrN t k) 93 (0, 0)) ∧ Just g w wr
def CPost (g : Nat) (t : St) (w : World) (e : Ending) (w' : World) : Prop := e = .returned (.agg #[.int .i64 (cntV t 0), .int .i64 (cntV t 1), .int .i64 (cntV t 2), .int .i64 (cntV t 3)]) ∧ IsRdr w' g (cntN t 4) ∧ Just g w w'
theorem size_cnt : (Tryd.prog.info? 93).map (·.size) = some 4 := by kernel_rfl
theorem one_cnt (a b c d : Int) : (#[Value.int .i64 a, .int .i64 b, .int .i64 c, .int .i64 d]).all (·.oneCell') = true := by simp [Value.oneCell']




set_option maxRecDepth 8000 in
set_option maxHeartbeats 3200000 in
theorem counts_any (g : Nat) (t : St) (w : World) (hl : Laid w) (h : IsRdr w g t) (ho : Ok t) :
    Calls Tryd.prog 48 #[.pointer (some ⟨g, 0, none⟩)] w (CPost g t w) := by
  have HL := Lib.hid hl
  have HR := Lib.hid h
  have HO := Lib.hid (fun j => ok_cnt ho j)
  have hgl := h.lt
  have HG : Hid (g < w.heap.size) := hgl
  have H2 := Lib.hid (fun o1 o2 => two_below w o1 o2)
  have HS := Lib.hid (second_new w)
  have HO4 := Lib.hid (one_cnt (cntV t 0) (cntV t 1) (cntV t 2) (cntV t 3))
  have hi0 : ∀ (a b c d : Value) w, (Instr.index 126 (.agg #[a, b, c, d]) (.int .i64 0)).run Tryd.prog w = .ok a w := fun _ _ _ _ _ => by kernel_rfl
  have hi1 : ∀ (a b c d : Value) w, (Instr.index 126 (.agg #[a, b, c, d]) (.int .i64 1)).run Tryd.prog w = .ok b w := fun _ _ _ _ _ => by kernel_rfl
  have hi2 : ∀ (a b c d : Value) w, (Instr.index 126 (.agg #[a, b, c, d]) (.int .i64 2)).run Tryd.prog w = .ok c w := fun _ _ _ _ _ => by kernel_rfl
  have hi3 : ∀ (a b c d : Value) w, (Instr.index 126 (.agg #[a, b, c, d]) (.int .i64 3)).run Tryd.prog w = .ok d w := fun _ _ _ _ _ => by kernel_rfl
  clear hl h ho hgl
  go_enter Tryd.func48, Tryd.ntmps48
  go_wp2
  go_loopw [16] (fun i wr => CRel g t w i wr) (fun i _ => 4 - (intOf i).toNat)
  case atStart => exact ⟨0, by omega, rfl, HR.out.kept (H2.out _ _), (heap_alloc_old _ _ (by simp)).trans (heap_alloc_new _ _), HS.out _ _, Just.of_below (H2.out _ _)⟩
  case round =>
    obtain ⟨k, hk, rfl, hr, hz, ha, hj⟩ := hrel
    have HR0 := Lib.hid hr
    have HZ0 := Lib.hid hz
    have HA0 := Lib.hid ha
    have HJ0 := Lib.hid hj
    clear hr hz ha hj
    rcases (show k = 0 ∨ k = 1 ∨ k = 2 ∨ k = 3 ∨ k = 4 by omega) with rfl | rfl | rfl | rfl | rfl
    · have HLr := Lib.hid (HL.out.just HR.out HJ0.out)
      have HC : Hid (Calls Tryd.prog 45 #[.pointer (some ⟨g, 0, none⟩)] wr (IPost .i64 g (numS (cntN t 0) 1) (cntV t 0) wr)) := u8_any g (cntN t 0) wr HLr.out.names HR0.out (HO.out 0)
      have HP : Hid (Calls Tryd.prog 20 #[.pointer (some ⟨g, 0, none⟩)] wr fun e w' => e = .returned (.int .i64 (cntN t 0).p) ∧ wr = w') := place_any g _ wr HR0.out
      have HT : Hid (needS (fineB 0 (cntV t 0)) (numS (cntN t 0) 1) 8 (cntN t 0).p = cntN t 1) := rfl
      obtain ⟨T1, hT1⟩ : ∃ T1, numS (cntN t 0) 1 = T1 := ⟨_, rfl⟩
      obtain ⟨P, hP⟩ : ∃ P, (cntN t 0).p = P := ⟨_, rfl⟩
      obtain ⟨V, hV⟩ : ∃ V, cntV t 0 = V := ⟨_, rfl⟩
      obtain ⟨B, hB⟩ : ∃ B, fineB 0 (V : Int) = B := ⟨_, rfl⟩
      have HV := Lib.hid hV
      have HBB := Lib.hid hB
      rw [hT1, hV] at HC
      rw [hT1, hP, hV, hB] at HT
      rw [hP] at HP
      clear hT1 hP hV hB hk
      go_wp2_with (go_at_call 20; refine HP.out.mono ?_; rintro e w' ⟨rfl, rfl⟩)
      refine HC.out.mono ?_
      rintro e w1 ⟨rfl, hr1, hj1⟩
      have HZ1 := Lib.hid ((hj1.block _ (lt_of_block HZ0.out) (by have := HG.out; omega)).trans HZ0.out)
      have ha1 := (hj1.block _ (lt_of_block HA0.out) (by have := HG.out; omega)).trans HA0.out
      have hz1 := frozen_of_row w1 _ 0 _ _ ha1
      have hR1 := IsRdr.poke hr1 ha1 (by decide) (by decide) 0 (.int .i64 V)
      have hJ1 := Just.poke (HJ0.out.trans hj1) (w.heap.size + 1) 0 (.int .i64 V) (by omega)
      have hA1 := heap_setCell_same w1 _ 0 _ _ (.int .i64 V) ha1
      have hc1 : (w1.setCell ⟨w.heap.size + 1, 0, none⟩ (.int .i64 V)).cell? ⟨w.heap.size + 1, 0, none⟩ = some (.int .i64 V) := by rw [cell_of_row _ _ _ _ _ _ hA1]; rfl
      have HZ2 := Lib.hid ((heap_setCell_other w1 ⟨w.heap.size + 1, 0, none⟩ w.heap.size (.int .i64 V) (by show _ ≠ _ + 1; omega)).trans HZ1.out)
      have HR1 := Lib.hid hR1
      have HJ1 := Lib.hid hJ1
      have HA1 := Lib.hid hA1
      have HL1 := Lib.hid (HL.out.just HR.out hJ1)
      have hcz := cell_of_row w1 _ 0 _ _ _ ha1
      dsimp only [arrN] at hcz
      clear hr1 hj1 ha1 hR1 hJ1 hA1
      go_wp2_with (first
        | (go_at_call 41; refine (mayBe_any 0 (by omega) V _ HL1.out).mono ?_; rintro e w' ⟨rfl, rfl⟩; (try rw [HBB.out]))
        | (go_at_call 44; refine (need_any g B T1 8 P _ HL1.out.names (by omega) HR1.out).mono ?_; rintro e w3 ⟨rfl, hr3, hj3⟩; rw [HT.out] at hr3; have HR3 := Lib.hid hr3; have HZ3 := Lib.hid ((hj3.block _ (lt_of_block HZ2.out) (by have := HG.out; omega)).trans HZ2.out); have HA3 := Lib.hid ((hj3.block _ (lt_of_block HA1.out) (by have := HG.out; omega)).trans HA1.out); have HJ3 := Lib.hid (HJ1.out.trans hj3); clear hr3 hj3))
      go_roundw
      case rel => exact ⟨1, by omega, by go_num, HR3.out, HZ3.out, by have := HA3.out; rw [← HV.out] at this; exact this, HJ3.out⟩
      case measure => simp [intOf]
    · have HLr := Lib.hid (HL.out.just HR.out HJ0.out)
      have HC : Hid (Calls Tryd.prog 45 #[.pointer (some ⟨g, 0, none⟩)] wr (IPost .i64 g (numS (cntN t 1) 1) (cntV t 1) wr)) := u8_any g (cntN t 1) wr HLr.out.names HR0.out (HO.out 1)
      have HP : Hid (Calls Tryd.prog 20 #[.pointer (some ⟨g, 0, none⟩)] wr fun e w' => e = .returned (.int .i64 (cntN t 1).p) ∧ wr = w') := place_any g _ wr HR0.out
      have HT : Hid (needS (fineB 1 (cntV t 1)) (numS (cntN t 1) 1) 8 (cntN t 1).p = cntN t 2) := rfl
      obtain ⟨T1, hT1⟩ : ∃ T1, numS (cntN t 1) 1 = T1 := ⟨_, rfl⟩
      obtain ⟨P, hP⟩ : ∃ P, (cntN t 1).p = P := ⟨_, rfl⟩
      obtain ⟨V, hV⟩ : ∃ V, cntV t 1 = V := ⟨_, rfl⟩
      obtain ⟨B, hB⟩ : ∃ B, fineB 1 (V : Int) = B := ⟨_, rfl⟩
      have HV := Lib.hid hV
      have HBB := Lib.hid hB
      rw [hT1, hV] at HC
      rw [hT1, hP, hV, hB] at HT
      rw [hP] at HP
      clear hT1 hP hV hB hk
      go_wp2_with (go_at_call 20; refine HP.out.mono ?_; rintro e w' ⟨rfl, rfl⟩)
      refine HC.out.mono ?_
      rintro e w1 ⟨rfl, hr1, hj1⟩
      have HZ1 := Lib.hid ((hj1.block _ (lt_of_block HZ0.out) (by have := HG.out; omega)).trans HZ0.out)
      have ha1 := (hj1.block _ (lt_of_block HA0.out) (by have := HG.out; omega)).trans HA0.out
      have hz1 := frozen_of_row w1 _ 1 _ _ ha1
      have hR1 := IsRdr.poke hr1 ha1 (by decide) (by decide) 1 (.int .i64 V)
      have hJ1 := Just.poke (HJ0.out.trans hj1) (w.heap.size + 1) 1 (.int .i64 V) (by omega)
      have hA1 := heap_setCell_same w1 _ 1 _ _ (.int .i64 V) ha1
      have hc1 : (w1.setCell ⟨w.heap.size + 1, 1, none⟩ (.int .i64 V)).cell? ⟨w.heap.size + 1, 1, none⟩ = some (.int .i64 V) := by rw [cell_of_row _ _ _ _ _ _ hA1]; rfl
      have HZ2 := Lib.hid ((heap_setCell_other w1 ⟨w.heap.size + 1, 1, none⟩ w.heap.size (.int .i64 V) (by show _ ≠ _ + 1; omega)).trans HZ1.out)
      have HR1 := Lib.hid hR1
      have HJ1 := Lib.hid hJ1
      have HA1 := Lib.hid hA1
      have HL1 := Lib.hid (HL.out.just HR.out hJ1)
      have hcz := cell_of_row w1 _ 1 _ _ _ ha1
      dsimp only [arrN] at hcz
      clear hr1 hj1 ha1 hR1 hJ1 hA1
      go_wp2_with (first
        | (go_at_call 41; refine (mayBe_any 1 (by omega) V _ HL1.out).mono ?_; rintro e w' ⟨rfl, rfl⟩; (try rw [HBB.out]))
        | (go_at_call 44; refine (need_any g B T1 8 P _ HL1.out.names (by omega) HR1.out).mono ?_; rintro e w3 ⟨rfl, hr3, hj3⟩; rw [HT.out] at hr3; have HR3 := Lib.hid hr3; have HZ3 := Lib.hid ((hj3.block _ (lt_of_block HZ2.out) (by have := HG.out; omega)).trans HZ2.out); have HA3 := Lib.hid ((hj3.block _ (lt_of_block HA1.out) (by have := HG.out; omega)).trans HA1.out); have HJ3 := Lib.hid (HJ1.out.trans hj3); clear hr3 hj3))
      go_roundw
      case rel => exact ⟨2, by omega, by go_num, HR3.out, HZ3.out, by have := HA3.out; rw [← HV.out] at this; exact this, HJ3.out⟩
      case measure => simp [intOf]
    · have HLr := Lib.hid (HL.out.just HR.out HJ0.out)
      have HC : Hid (Calls Tryd.prog 73 #[.pointer (some ⟨g, 0, none⟩)] wr (IPost .i64 g (numS (cntN t 2) 2) (cntV t 2) wr)) := u16_any g (cntN t 2) wr HLr.out.names HR0.out (HO.out 2)
      have HP : Hid (Calls Tryd.prog 20 #[.pointer (some ⟨g, 0, none⟩)] wr fun e w' => e = .returned (.int .i64 (cntN t 2).p) ∧ wr = w') := place_any g _ wr HR0.out
      have HT : Hid (needS (fineB 2 (cntV t 2)) (numS (cntN t 2) 2) 8 (cntN t 2).p = cntN t 3) := rfl
      obtain ⟨T1, hT1⟩ : ∃ T1, numS (cntN t 2) 2 = T1 := ⟨_, rfl⟩
      obtain ⟨P, hP⟩ : ∃ P, (cntN t 2).p = P := ⟨_, rfl⟩
      obtain ⟨V, hV⟩ : ∃ V, cntV t 2 = V := ⟨_, rfl⟩
      obtain ⟨B, hB⟩ : ∃ B, fineB 2 (V : Int) = B := ⟨_, rfl⟩
      have HV := Lib.hid hV
      have HBB := Lib.hid hB
      rw [hT1, hV] at HC
      rw [hT1, hP, hV, hB] at HT
      rw [hP] at HP
      clear hT1 hP hV hB hk
      go_wp2_with (go_at_call 20; refine HP.out.mono ?_; rintro e w' ⟨rfl, rfl⟩)
      refine HC.out.mono ?_
      rintro e w1 ⟨rfl, hr1, hj1⟩
      have HZ1 := Lib.hid ((hj1.block _ (lt_of_block HZ0.out) (by have := HG.out; omega)).trans HZ0.out)
      have ha1 := (hj1.block _ (lt_of_block HA0.out) (by have := HG.out; omega)).trans HA0.out
      have hz1 := frozen_of_row w1 _ 2 _ _ ha1
      have hR1 := IsRdr.poke hr1 ha1 (by decide) (by decide) 2 (.int .i64 V)
      have hJ1 := Just.poke (HJ0.out.trans hj1) (w.heap.size + 1) 2 (.int .i64 V) (by omega)
      have hA1 := heap_setCell_same w1 _ 2 _ _ (.int .i64 V) ha1
      have hc1 : (w1.setCell ⟨w.heap.size + 1, 2, none⟩ (.int .i64 V)).cell? ⟨w.heap.size + 1, 2, none⟩ = some (.int .i64 V) := by rw [cell_of_row _ _ _ _ _ _ hA1]; rfl
      have HZ2 := Lib.hid ((heap_setCell_other w1 ⟨w.heap.size + 1, 2, none⟩ w.heap.size (.int .i64 V) (by show _ ≠ _ + 1; omega)).trans HZ1.out)
      have HR1 := Lib.hid hR1
      have HJ1 := Lib.hid hJ1
      have HA1 := Lib.hid hA1
      have HL1 := Lib.hid (HL.out.just HR.out hJ1)
      have hcz := cell_of_row w1 _ 2 _ _ _ ha1
      dsimp only [arrN] at hcz
      clear hr1 hj1 ha1 hR1 hJ1 hA1
      go_wp2_with (first
        | (go_at_call 41; refine (mayBe_any 2 (by omega) V _ HL1.out).mono ?_; rintro e w' ⟨rfl, rfl⟩; (try rw [HBB.out]))
        | (go_at_call 44; refine (need_any g B T1 8 P _ HL1.out.names (by omega) HR1.out).mono ?_; rintro e w3 ⟨rfl, hr3, hj3⟩; rw [HT.out] at hr3; have HR3 := Lib.hid hr3; have HZ3 := Lib.hid ((hj3.block _ (lt_of_block HZ2.out) (by have := HG.out; omega)).trans HZ2.out); have HA3 := Lib.hid ((hj3.block _ (lt_of_block HA1.out) (by have := HG.out; omega)).trans HA1.out); have HJ3 := Lib.hid (HJ1.out.trans hj3); clear hr3 hj3))
      go_roundw
      case rel => exact ⟨3, by omega, by go_num, HR3.out, HZ3.out, by have := HA3.out; rw [← HV.out] at this; exact this, HJ3.out⟩
      case measure => simp [intOf]
    · have HLr := Lib.hid (HL.out.just HR.out HJ0.out)
      have HC : Hid (Calls Tryd.prog 73 #[.pointer (some ⟨g, 0, none⟩)] wr (IPost .i64 g (numS (cntN t 3) 2) (cntV t 3) wr)) := u16_any g (cntN t 3) wr HLr.out.names HR0.out (HO.out 3)
      have HP : Hid (Calls Tryd.prog 20 #[.pointer (some ⟨g, 0, none⟩)] wr fun e w' => e = .returned (.int .i64 (cntN t 3).p) ∧ wr = w') := place_any g _ wr HR0.out
      have HT : Hid (needS (fineB 3 (cntV t 3)) (numS (cntN t 3) 2) 8 (cntN t 3).p = cntN t 4) := rfl
      obtain ⟨T1, hT1⟩ : ∃ T1, numS (cntN t 3) 2 = T1 := ⟨_, rfl⟩
      obtain ⟨P, hP⟩ : ∃ P, (cntN t 3).p = P := ⟨_, rfl⟩
      obtain ⟨V, hV⟩ : ∃ V, cntV t 3 = V := ⟨_, rfl⟩
      obtain ⟨B, hB⟩ : ∃ B, fineB 3 (V : Int) = B := ⟨_, rfl⟩
      have HV := Lib.hid hV
      have HBB := Lib.hid hB
      rw [hT1, hV] at HC
      rw [hT1, hP, hV, hB] at HT
      rw [hP] at HP
      clear hT1 hP hV hB hk
      go_wp2_with (go_at_call 20; refine HP.out.mono ?_; rintro e w' ⟨rfl, rfl⟩)
      refine HC.out.mono ?_
      rintro e w1 ⟨rfl, hr1, hj1⟩
      have HZ1 := Lib.hid ((hj1.block _ (lt_of_block HZ0.out) (by have := HG.out; omega)).trans HZ0.out)
      have ha1 := (hj1.block _ (lt_of_block HA0.out) (by have := HG.out; omega)).trans HA0.out
      have hz1 := frozen_of_row w1 _ 3 _ _ ha1
      have hR1 := IsRdr.poke hr1 ha1 (by decide) (by decide) 3 (.int .i64 V)
      have hJ1 := Just.poke (HJ0.out.trans hj1) (w.heap.size + 1) 3 (.int .i64 V) (by omega)
      have hA1 := heap_setCell_same w1 _ 3 _ _ (.int .i64 V) ha1
      have hc1 : (w1.setCell ⟨w.heap.size + 1, 3, none⟩ (.int .i64 V)).cell? ⟨w.heap.size + 1, 3, none⟩ = some (.int .i64 V) := by rw [cell_of_row _ _ _ _ _ _ hA1]; rfl
      have HZ2 := Lib.hid ((heap_setCell_other w1 ⟨w.heap.size + 1, 3, none⟩ w.heap.size (.int .i64 V) (by show _ ≠ _ + 1; omega)).trans HZ1.out)
      have HR1 := Lib.hid hR1
      have HJ1 := Lib.hid hJ1
      have HA1 := Lib.hid hA1
      have HL1 := Lib.hid (HL.out.just HR.out hJ1)
      have hcz := cell_of_row w1 _ 3 _ _ _ ha1
      dsimp only [arrN] at hcz
      clear hr1 hj1 ha1 hR1 hJ1 hA1
      go_wp2_with (first
        | (go_at_call 41; refine (mayBe_any 3 (by omega) V _ HL1.out).mono ?_; rintro e w' ⟨rfl, rfl⟩; (try rw [HBB.out]))
        | (go_at_call 44; refine (need_any g B T1 8 P _ HL1.out.names (by omega) HR1.out).mono ?_; rintro e w3 ⟨rfl, hr3, hj3⟩; rw [HT.out] at hr3; have HR3 := Lib.hid hr3; have HZ3 := Lib.hid ((hj3.block _ (lt_of_block HZ2.out) (by have := HG.out; omega)).trans HZ2.out); have HA3 := Lib.hid ((hj3.block _ (lt_of_block HA1.out) (by have := HG.out; omega)).trans HA1.out); have HJ3 := Lib.hid (HJ1.out.trans hj3); clear hr3 hj3))
      go_roundw
      case rel => exact ⟨4, by omega, by go_num, HR3.out, HZ3.out, by have := HA3.out; rw [← HV.out] at this; exact this, HJ3.out⟩
      case measure => simp [intOf]
    · have HR9 := Lib.hid (IsRdr.pokeRow HR0.out HZ0.out (by decide) (by decide) (arrN t 4))
      have HJ9 := Lib.hid (Just.pokeRow HJ0.out w.heap.size (arrN t 4) (Nat.le_refl _))
      have HS9 := Lib.hid (setRow_heap wr _ _ (arrN t 4) _ _ HZ0.out)
      clear hk
      go_wp2_with (first
        | ((with_reducible show wpList _ _ _ _ _ _); refine wpList_load_row rfl 93 (.tmp 3) rfl (w.heap.size + 1) rfl 93 (arrN t 4) (0, 0) _ HA0.out Tryd.underlying93 rfl (by rw [size_cnt]; rfl) ?_)
        | ((with_reducible show wpList _ _ _ _ _ _); refine wpList_store_row rfl 93 (.tmp 2) (.tmp 35) rfl w.heap.size (arrN t 4) rfl rfl 93 (arrN t 0) HZ0.out (by rw [size_cnt]; rfl) rfl HO4.out ?_))
      refine bodyPost_ret (v := .agg (arrN t 4)) (results_cell_row (by rfl) _ _ w.heap.size 93 _ (0, 0) _ rfl HS9.out Tryd.underlying93 rfl (by rw [size_cnt]; rfl)) rfl ⟨rfl, HR9.out, HJ9.out⟩
end Go.Proofs.YteadednglodgpaaDoor.Hdr
