
/- What the document's Right tells of a header: the same as the program's. No condition. -/

import Derived.Test.YteadednglodgpaaDoorHdrB

namespace Go.Proofs.YteadednglodgpaaDoor.Hdr

open Go.RowKit Go.PlainAid Go.Proofs.YteadednglodgpaaDoor.Oct Go.Proofs.YteadednglodgpaaDoor.Flt Go.Proofs.YteadednglodgpaaDoor.Rdr

set_option linter.unusedVariables false

theorem rfine_at (m : Nat) (h1 : 1 ≤ m) (h4 : m ≤ 4) (n : Int) (w : World) :
    Calls Tryd.prog 37 #[.int .i64 m, .int .i64 n] w fun e w' => e = .returned (.bool (fineB (m - 1) n)) ∧ Below w.heap.size w w' := by
  obtain ⟨i, rfl⟩ : ∃ i, m = i + 1 := ⟨m - 1, by omega⟩
  exact rfine_any i (by omega) n w
/-- The count at place i, from 0 on. -/
def cntAt (h : H7) : Nat → Int
  | 0 => h.a
  | 1 => h.b
  | 2 => h.c
  | _ => h.d
theorem bad_at {h : H7} (h0 : ¬ (h.fi < 0 ∨ 255 < h.fi)) {m : Nat} (hm : m < 4) (hall : ∀ j, j < m → fineB j (cntAt h j) = true) (hx : fineB m (cntAt h m) = false) : bad h = (8, ((m + 1 : Nat) : Int)) := by
  unfold bad
  rw [if_neg h0]
  rcases (show m = 0 ∨ m = 1 ∨ m = 2 ∨ m = 3 by omega) with rfl | rfl | rfl | rfl
  · have e : fineB 0 h.a = false := hx
    rw [if_pos e]; rfl
  · have e0 : fineB 0 h.a = true := hall 0 (by omega)
    have e : fineB 1 h.b = false := hx
    rw [e0, e]; rfl
  · have e0 : fineB 0 h.a = true := hall 0 (by omega)
    have e1 : fineB 1 h.b = true := hall 1 (by omega)
    have e : fineB 2 h.c = false := hx
    rw [e0, e1, e]; rfl
  · have e0 : fineB 0 h.a = true := hall 0 (by omega)
    have e1 : fineB 1 h.b = true := hall 1 (by omega)
    have e2 : fineB 2 h.c = true := hall 2 (by omega)
    have e : fineB 3 h.d = false := hx
    rw [e0, e1, e2, e]; rfl
theorem bad_none {h : H7} (h0 : ¬ (h.fi < 0 ∨ 255 < h.fi)) (hall : ∀ j, j < 4 → fineB j (cntAt h j) = true) : bad h = (0, 0) := by
  unfold bad
  rw [if_neg h0]
  have e0 : fineB 0 h.a = true := hall 0 (by omega)
  have e1 : fineB 1 h.b = true := hall 1 (by omega)
  have e2 : fineB 2 h.c = true := hall 2 (by omega)
  have e3 : fineB 3 h.d = true := hall 3 (by omega)
  rw [e0, e1, e2, e3]; rfl
def RRel (h : H7) (w : World) (i : Value) (wr : World) : Prop :=
  ∃ m : Nat, 1 ≤ m ∧ m ≤ 5 ∧ i = .int .i64 m ∧ (∀ j, j < m - 1 → fineB j (cntAt h j) = true) ∧ wr.heap[w.heap.size + 1]? = some (.cells #[.int .i64 0, .int .i64 0, .int .i64 0] 34 (0, 0)) ∧
    wr.heap[w.heap.size + 2]? = some (.cells #[.int .i64 0, .int .i64 h.a, .int .i64 h.b, .int .i64 h.c, .int .i64 h.d] 3 (0, 0)) ∧ Below w.heap.size w wr
theorem third_facts (w : World) (o1 o2 o3 : Obj) : (((w.alloc o1).alloc o2).alloc o3).heap[w.heap.size + 1]? = some o2 ∧ (((w.alloc o1).alloc o2).alloc o3).heap[w.heap.size + 2]? = some o3 ∧ Below w.heap.size w (((w.alloc o1).alloc o2).alloc o3) := by
  refine ⟨?_, ?_, (two_below w o1 o2).alloc (by simp; omega) o3⟩
  · rw [heap_alloc_old _ _ (by simp)]; exact second_new w o1 o2
  · have := heap_alloc_new ((w.alloc o1).alloc o2) o3; simpa using this
set_option maxRecDepth 8000 in
set_option maxHeartbeats 1600000 in
theorem rright_any (h : H7) (w : World) :
    Calls Tryd.prog 9 #[.agg (hdC h)] w fun e w' => e = .returned (fltV (bad h).1 (sec1 (bad h).1) (bad h).2) ∧ Below w.heap.size w w' := by
  obtain ⟨q, hq⟩ : ∃ q, bad h = q := ⟨_, rfl⟩
  have HQ := Lib.hid hq
  rw [hq]
  unfold hdC fltV
  have H2 := Lib.hid (two_below w)
  have HO := fun a b c => Lib.hid (one_flt a b c)
  clear hq
  by_cases hfi : h.fi < 0 ∨ 255 < h.fi
  · have eb : bad h = (18, 0) := by unfold bad; rw [if_pos hfi]
    obtain rfl : (18, 0) = q := eb.symm.trans HQ.out
    clear eb HQ
    rcases (show h.fi < 0 ∨ (¬ h.fi < 0 ∧ 255 < h.fi) by omega) with hx | ⟨hx, hy⟩
    · have t1 : decide (h.fi < 0) = true := decide_eq_true hx
      clear hfi hx
      go_enter Tryd.func9, Tryd.ntmps9
      go_wp2_with ((with_reducible show wpList _ _ _ _ _ _); refine wpList_store_row rfl 34 (.tmp 2) (.tmp 13) rfl (w.heap.size + 1) #[.int .i64 18, .int .i64 1, .int .i64 0] rfl rfl 34 #[.int .i64 0, .int .i64 0, .int .i64 0] (second_new _ _ _) (by rw [size_flt]; rfl) rfl (HO _ _ _).out ?_)
      refine bodyPost_ret (v := .agg #[.int .i64 18, .int .i64 1, .int .i64 0]) (results_cell_row (by rfl) _ _ (w.heap.size + 1) 34 _ (0, 0) _ rfl (setRow_heap _ _ _ _ _ _ (second_new _ _ _)) Tryd.underlying34 rfl (by rw [size_flt]; rfl)) rfl ⟨rfl, ?_⟩
      exact below_set2 (H2.out _ _) (by omega)
    · have t1 : decide (h.fi < 0) = false := decide_eq_false hx
      have t2 : decide (255 < h.fi) = true := decide_eq_true hy
      clear hfi hx hy
      go_enter Tryd.func9, Tryd.ntmps9
      go_wp2_with ((with_reducible show wpList _ _ _ _ _ _); refine wpList_store_row rfl 34 (.tmp 2) (.tmp 13) rfl (w.heap.size + 1) #[.int .i64 18, .int .i64 1, .int .i64 0] rfl rfl 34 #[.int .i64 0, .int .i64 0, .int .i64 0] (second_new _ _ _) (by rw [size_flt]; rfl) rfl (HO _ _ _).out ?_)
      refine bodyPost_ret (v := .agg #[.int .i64 18, .int .i64 1, .int .i64 0]) (results_cell_row (by rfl) _ _ (w.heap.size + 1) 34 _ (0, 0) _ rfl (setRow_heap _ _ _ _ _ _ (second_new _ _ _)) Tryd.underlying34 rfl (by rw [size_flt]; rfl)) rfl ⟨rfl, ?_⟩
      exact below_set2 (H2.out _ _) (by omega)
  · have t1 : decide (h.fi < 0) = false := decide_eq_false (by omega)
    have t2 : decide (255 < h.fi) = false := decide_eq_false (by omega)
    have HA : Hid (∀ (m : Nat), m < 4 → (∀ j, j < m → fineB j (cntAt h j) = true) → fineB m (cntAt h m) = false → q = (8, ((m + 1 : Nat) : Int))) := fun m h1 h2 h3 => HQ.out.symm.trans (bad_at hfi h1 h2 h3)
    have HZ : Hid ((∀ j, j < 4 → fineB j (cntAt h j) = true) → q = (0, 0)) := fun h2 => HQ.out.symm.trans (bad_none hfi h2)
    have HT := Lib.hid (third_facts w)
    clear hfi HQ
    go_enter Tryd.func9, Tryd.ntmps9
    go_wp2
    go_loopw [4] (fun i wr => RRel h w i wr) (fun i _ => 5 - (intOf i).toNat)
    case atStart => exact ⟨1, by omega, by omega, rfl, by omega, (HT.out _ _ _).1, (HT.out _ _ _).2.1, (HT.out _ _ _).2.2⟩
    case round =>
      obtain ⟨m, h1, h5, rfl, hall, hF, hS, hB⟩ := hrel
      by_cases hm : m ≤ 4
      · have tm : decide ((m : Int) ≤ 4) = true := decide_eq_true (by omega)
        have hc : wr.cell? ⟨w.heap.size + 2, m, none⟩ = some (.int .i64 (cntAt h (m - 1))) := by
          rw [cell_of_row wr _ _ _ _ _ hS]
          rcases (show m = 1 ∨ m = 2 ∨ m = 3 ∨ m = 4 by omega) with rfl | rfl | rfl | rfl <;> rfl
        obtain ⟨X, hX⟩ : ∃ X, cntAt h (m - 1) = X := ⟨_, rfl⟩
        have HC := Lib.hid (fun w => rfine_at m h1 hm X w)
        have HALL := Lib.hid hall
        have HFF := Lib.hid hF
        have HSS := Lib.hid hS
        have HBB := Lib.hid hB
        have HX := Lib.hid hX
        have HM1 : Hid (1 ≤ m ∧ m ≤ 4) := ⟨h1, hm⟩
        rw [hX] at hc
        have hlt : (m : Int) < 5 := by omega
        have h0m : (0 : Int) ≤ m := by omega
        cases hf : fineB (m - 1) X with
        | true =>
          rw [hf] at HC
          have HG : Hid (fineB (m - 1) (cntAt h (m - 1)) = true) := by show _ = _; rw [hX]; exact hf
          clear hall hF hS hB hX hm h1 h5 hf
          go_wp2_with (go_at_call 37; refine (HC.out _).mono ?_; rintro e w1 ⟨rfl, hb⟩; have HB1 := Lib.hid hb; clear hb)
          go_roundw
          case rel => exact ⟨m + 1, by omega, by have := HM1.out; omega, by go_num, fun j hj => by
              rcases (show j < m - 1 ∨ j = m - 1 by omega) with h | rfl
              · exact HALL.out j h
              · exact HG.out, (HB1.out.block _ (lt_of_block HFF.out)).trans HFF.out, (HB1.out.block _ (lt_of_block HSS.out)).trans HSS.out, HBB.out.trans (HB1.out.mono HBB.out.size)⟩
          case measure => have := HM1.out; simp [intOf]; omega
        | false =>
          rw [hf] at HC
          have HG := HA.out (m - 1) (by omega) hall (by rw [hX]; exact hf)
          rw [show m - 1 + 1 = m by omega] at HG
          obtain rfl := HG.symm
          clear hall hF hS hB hX hm h1 h5 hf HG
          go_wp2_with (first
            | (go_at_call 37; refine (HC.out _).mono ?_; rintro e w1 ⟨rfl, hb⟩; have HB1 := Lib.hid hb; have HF1 : Hid (w1.heap[w.heap.size + 1]? = some (.cells #[.int .i64 0, .int .i64 0, .int .i64 0] 34 (0, 0))) := (hb.block _ (lt_of_block HFF.out)).trans HFF.out; clear hb)
            | ((with_reducible show wpList _ _ _ _ _ _); refine wpList_store_row rfl 34 (.tmp 2) (.tmp 35) rfl (w.heap.size + 1) #[.int .i64 8, .int .i64 1, .int .i64 m] rfl rfl 34 #[.int .i64 0, .int .i64 0, .int .i64 0] HF1.out (by rw [size_flt]; rfl) rfl (HO _ _ _).out ?_))
          refine bodyPost_ret (v := .agg #[.int .i64 8, .int .i64 1, .int .i64 m]) (results_cell_row (by rfl) _ _ (w.heap.size + 1) 34 _ (0, 0) _ rfl (setRow_heap _ _ _ _ _ _ HF1.out) Tryd.underlying34 rfl (by rw [size_flt]; rfl)) rfl ⟨rfl, ?_⟩
          exact below_set2 (HBB.out.trans (HB1.out.mono HBB.out.size)) (by omega)
      · obtain rfl : m = 5 := by omega
        have HG := HZ.out hall
        obtain rfl := HG.symm
        have HFF := Lib.hid hF
        have HBB := Lib.hid hB
        clear hall hF hS hB hm h1 h5 HG
        go_wp2_with ((with_reducible show wpList _ _ _ _ _ _); refine wpList_store_row rfl 34 (.tmp 2) (.tmp 36) rfl (w.heap.size + 1) #[.int .i64 0, .int .i64 0, .int .i64 0] rfl rfl 34 #[.int .i64 0, .int .i64 0, .int .i64 0] HFF.out (by rw [size_flt]; rfl) rfl (HO _ _ _).out ?_)
        refine bodyPost_ret (v := .agg #[.int .i64 0, .int .i64 0, .int .i64 0]) (results_cell_row (by rfl) _ _ (w.heap.size + 1) 34 _ (0, 0) _ rfl (setRow_heap _ _ _ _ _ _ HFF.out) Tryd.underlying34 rfl (by rw [size_flt]; rfl)) rfl ⟨rfl, ?_⟩
        exact below_set2 HBB.out (by omega)
end Go.Proofs.YteadednglodgpaaDoor.Hdr
