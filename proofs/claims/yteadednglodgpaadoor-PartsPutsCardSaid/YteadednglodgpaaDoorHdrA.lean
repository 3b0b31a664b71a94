
/- What package header tells of counts and of headers, and what the document tells of them. Condition: the variables hold what the program lays there. -/

import Derived.Test.YteadednglodgpaaDoorRdrF

import Derived.Test.YteadednglodgpaaDoorArgsS

import Derived.Lib.LaidTab

namespace Go.Proofs.YteadednglodgpaaDoor.Hdr

open Go.RowKit Go.PlainAid Go.Proofs.YteadednglodgpaaDoor.Oct Go.Proofs.YteadednglodgpaaDoor.Flt Go.Proofs.YteadednglodgpaaDoor.Rdr

set_option linter.unusedVariables false

def fewL : List Int := [1, 1, 0, 0]
def mostL : List Int := [32, 16, 240, 512]
/-- The variables hold what the program lays in them: the names; how few and how many there may be. -/
structure Laid (w : World) : Prop where
  names : Names w
  few : ∀ i, i < 4 → w.cell? ⟨0, i, none⟩ = some (.int .i64 (fewL.getD i 0))
  most : ∀ i, i < 4 → w.cell? ⟨1, i, none⟩ = some (.int .i64 (mostL.getD i 0))
theorem Laid.kept {w w' : World} (h : Laid w) (b : Below w.heap.size w w') : Laid w' :=
  ⟨h.names.kept b, fun i hi => (b.cell (p := ⟨_, i, none⟩) (Go.block_lt_of_cell (h.few i hi))).trans (h.few i hi), fun i hi => (b.cell (p := ⟨_, i, none⟩) (Go.block_lt_of_cell (h.most i hi))).trans (h.most i hi)⟩
theorem cell_of_heap {w w' : World} {g : Nat} (i : Nat) (h : w'.heap[g]? = w.heap[g]?) : w'.cell? ⟨g, i, none⟩ = w.cell? ⟨g, i, none⟩ := by simp [World.cell?, h]
theorem Laid.just {w w' : World} {g : Nat} {t : St} (h : Laid w) (hr : IsRdr w g t) (j : Just g w w') : Laid w' := by
  have hne : ∀ b z, w.cell? ⟨b, 0, none⟩ = some (.int .i64 z) → b ≠ g := by
    rintro b z hb rfl
    obtain ⟨x, hx, _⟩ := hr
    rw [(cells_of hx).1] at hb
    cases hb
  have hf : ∀ i, w'.cell? ⟨0, i, none⟩ = w.cell? ⟨0, i, none⟩ := fun i =>
    cell_of_heap i (j.block _ (Go.block_lt_of_cell (h.few 0 (by omega))) (hne _ _ (h.few 0 (by omega))))
  have hm : ∀ i, w'.cell? ⟨1, i, none⟩ = w.cell? ⟨1, i, none⟩ := fun i =>
    cell_of_heap i (j.block _ (Go.block_lt_of_cell (h.most 0 (by omega))) (hne _ _ (h.most 0 (by omega))))
  exact ⟨Rdr.Names.just h.names hr j, fun i hi => (hf i).trans (h.few i hi), fun i hi => (hm i).trans (h.most i hi)⟩
theorem Laid.drewN {w : World} (h : Laid w) (n : Nat) : Laid (w.drewN n) := ⟨h.names, h.few, h.most⟩

/-- May there be n of what is counted at place i? -/
def fineB (i : Nat) (n : Int) : Bool := decide (fewL.getD i 0 ≤ n) && decide (n ≤ mostL.getD i 0)
theorem mayBe_any (i : Nat) (hi : i < 4) (n : Int) (w : World) (hl : Laid w) :
    Calls Tryd.prog 41 #[.int .i64 i, .int .i64 n] w fun e w' => e = .returned (.bool (fineB i n)) ∧ w = w' := by
  have hf := hl.few i hi
  have hm := hl.most i hi
  unfold fineB
  obtain ⟨C, hC⟩ : ∃ C, fewL.getD i 0 = C := ⟨_, rfl⟩
  obtain ⟨M, hM⟩ : ∃ M, mostL.getD i 0 = M := ⟨_, rfl⟩
  rw [hC] at hf ⊢
  rw [hM] at hm ⊢
  clear hl hC hM
  cases t1 : decide (C ≤ n) with
  | false =>
    go_enter Tryd.func41, Tryd.ntmps41
    go_wp2
    go_ret
    exact ⟨rfl, rfl⟩
  | true =>
    cases t2 : decide (n ≤ M)
    all_goals
      go_enter Tryd.func41, Tryd.ntmps41
      go_wp2
      go_ret
      exact ⟨rfl, rfl⟩
theorem wrong_any (k : Nat) (h1 : 1 ≤ k) (h2 : k ≤ 18) (a : Int) (w : World) (hn : Names w) :
    Calls Tryd.prog 40 #[.int .i64 k, .int .i64 a] w fun e w' => ∃ x, e = .returned x ∧ Wrong w' x k 1 a ∧ Below w.heap.size w w' := by
  have HN := Lib.hid hn
  have HK : Hid (1 ≤ k ∧ k ≤ 18) := ⟨h1, h2⟩
  clear hn h1 h2
  go_enter Tryd.func40, Tryd.ntmps40
  go_wp2_with fail
  refine (new_yes k HK.out.1 HK.out.2 _ HN.out).mono ?_
  rintro e w' ⟨rfl, rfl⟩
  go_wp2_with fail
  refine (at_any a _ [] k _ rfl).mono ?_
  rintro e w1 ⟨y, rfl, hy, hb⟩
  have HY := Lib.hid hy
  have HB := Lib.hid hb
  clear hy hb
  go_wp2_with fail
  refine (in_any 1 _ _ k _ HY.out).mono ?_
  rintro e w2 ⟨z, rfl, hz, hb2⟩
  have HZ := Lib.hid hz
  have HB2 := Lib.hid (HB.out.trans (hb2.mono HB.out.size))
  clear hz hb2
  go_wp2
  go_ret
  exact ⟨z, rfl, .inr ⟨HK.out.1, HK.out.2, HZ.out⟩, HB2.out⟩

/-- A header: its fields. -/
structure H7 where
  tot : Nat
  ep : Nat
  fi : Int
  a : Int
  b : Int
  c : Int
  d : Int
def hdC (h : H7) : Array Value := #[.int .u32 h.tot, .int .u64 h.ep, .int .i64 h.fi, .int .i64 h.a, .int .i64 h.b, .int .i64 h.c, .int .i64 h.d]
/-- What is wrong with a header, and where: its class (0: nothing), its place. -/
def bad (h : H7) : Nat × Int :=
  if h.fi < 0 ∨ 255 < h.fi then (18, 0) else if fineB 0 h.a = false then (8, 1) else if fineB 1 h.b = false then (8, 2) else if fineB 2 h.c = false then (8, 3) else if fineB 3 h.d = false then (8, 4) else (0, 0)
def sec1 (k : Nat) : Int := if k = 0 then 0 else 1
def I64 (n : Int) : Prop := -9223372036854775808 ≤ n ∧ n ≤ 9223372036854775807
/-- A header whose numbers fit their fields. -/
structure Fit (h : H7) : Prop where
  tot : h.tot ≤ 4294967295
  ep : h.ep ≤ 18446744073709551615
  fi : I64 h.fi
  a : I64 h.a
  b : I64 h.b
  c : I64 h.c
  d : I64 h.d
theorem fits_first {n : Int} (h : I64 n) (w : World) :
    Calls Tryd.prog 39 #[.int .u64 (IntKind.u64.wrap n), .int .i64 1] w fun e w' => e = .returned (.bool (decide (0 ≤ n) && decide (n ≤ 255))) ∧ w = w' := by
  obtain ⟨v, hv⟩ : ∃ v : Nat, IntKind.u64.wrap n = v := ⟨(IntKind.u64.wrap n).toNat, by rw [IntKind.wrap_u64]; omega⟩
  have hv2 := hv
  rw [IntKind.wrap_u64] at hv2
  unfold I64 at h
  have e : (decide (0 ≤ n) && decide (n ≤ 255)) = fitB v 1 := by
    rw [fitB_1, Bool.eq_iff_iff]; simp; omega
  rw [hv, e]
  exact fits_any v 1 (by omega) w
def cntL (h : H7) : List Int := [h.a, h.b, h.c, h.d]
def RtPost (h : H7) (w : World) (e : Ending) (w' : World) : Prop := ∃ x, e = .returned x ∧ Wrong w' x (bad h).1 (sec1 (bad h).1) (bad h).2 ∧ Below w.heap.size w w'
set_option maxRecDepth 8000 in
set_option maxHeartbeats 1600000 in
theorem right_any (h : H7) (hf : Fit h) (w : World) (hl : Laid w) :
    Calls Tryd.prog 12 #[.agg (hdC h)] w (RtPost h w) := by
  obtain ⟨q, hq⟩ : ∃ q, bad h = q := ⟨_, rfl⟩
  have HQ := Lib.hid hq
  have hR : RtPost h w = fun e w' => ∃ x, e = .returned x ∧ Wrong w' x q.1 (sec1 q.1) q.2 ∧ Below w.heap.size w w' := by unfold RtPost; rw [hq]
  have hb0 : Below w.heap.size w (w.alloc (.cells #[.int .u32 h.tot, .int .u64 h.ep, .int .i64 h.fi, .int .i64 h.a, .int .i64 h.b, .int .i64 h.c, .int .i64 h.d] 26)) := (Below.refl _ _).alloc (Nat.le_refl _) _
  have HB := Lib.hid hb0
  have HL := Lib.hid (hl.kept hb0)
  have HF := Lib.hid (fun w => fits_first hf.fi w)
  rw [hR]
  unfold hdC
  clear hl hR hb0 hq
  by_cases hfi : h.fi < 0 ∨ 255 < h.fi
  · have eb : bad h = (18, 0) := by unfold bad; rw [if_pos hfi]
    have e0 : (decide (0 ≤ h.fi) && decide (h.fi ≤ 255)) = false := by simp; omega
    rw [e0] at HF
    obtain rfl : (18, 0) = q := eb.symm.trans HQ.out
    clear e0 eb HQ hfi hf
    obtain ⟨tot, ep, fi, a, b, c, d⟩ := h
    dsimp only at *
    go_enter Tryd.func12, Tryd.ntmps12
    go_wp2_with (go_at_call 39; refine (HF.out _).mono ?_; rintro e w' ⟨rfl, rfl⟩)
    refine (wrong_any 18 (by omega) (by omega) 0 _ HL.out.names).mono ?_
    rintro e w1 ⟨x, rfl, hx, hb⟩
    have HX := Lib.hid hx
    have HB1 := Lib.hid (HB.out.trans (hb.mono HB.out.size))
    clear hx hb
    go_wp2
    go_ret
    exact ⟨_, rfl, HX.out, HB1.out⟩
  · have e0 : (decide (0 ≤ h.fi) && decide (h.fi ≤ 255)) = true := by simp; omega
    rw [e0] at HF
    have HM : Hid (∀ (i : Nat) (n : Int), i < 4 → Calls Tryd.prog 41 #[.int .i64 i, .int .i64 n] (w.alloc (.cells #[.int .u32 h.tot, .int .u64 h.ep, .int .i64 h.fi, .int .i64 h.a, .int .i64 h.b, .int .i64 h.c, .int .i64 h.d] 26)) fun e w' => e = .returned (.bool (fineB i n)) ∧ (w.alloc (.cells #[.int .u32 h.tot, .int .u64 h.ep, .int .i64 h.fi, .int .i64 h.a, .int .i64 h.b, .int .i64 h.c, .int .i64 h.d] 26)) = w') :=
      fun i n hi => mayBe_any i hi n _ HL.out
    have HE : Hid (bad h = if fineB 0 h.a = false then (8, 1) else if fineB 1 h.b = false then (8, 2) else if fineB 2 h.c = false then (8, 3) else if fineB 3 h.d = false then (8, 4) else (0, 0)) := by
      show _ = _; unfold bad; rw [if_neg hfi]
    clear e0 hfi hf
    obtain ⟨tot, ep, fi, a, b, c, d⟩ := h
    dsimp only at *
    go_enter Tryd.func12, Tryd.ntmps12
    go_wp2_with (go_at_call 39; refine (HF.out _).mono ?_; rintro e w' ⟨rfl, rfl⟩)
    have i0 : ∀ w, (Instr.index 93 (.agg #[.int .i64 a, .int .i64 b, .int .i64 c, .int .i64 d]) (.int .i64 0)).run Tryd.prog w = .ok (.int .i64 a) w := fun _ => by kernel_rfl
    have i1 : ∀ w, (Instr.index 93 (.agg #[.int .i64 a, .int .i64 b, .int .i64 c, .int .i64 d]) (.int .i64 1)).run Tryd.prog w = .ok (.int .i64 b) w := fun _ => by kernel_rfl
    have i2 : ∀ w, (Instr.index 93 (.agg #[.int .i64 a, .int .i64 b, .int .i64 c, .int .i64 d]) (.int .i64 2)).run Tryd.prog w = .ok (.int .i64 c) w := fun _ => by kernel_rfl
    have i3 : ∀ w, (Instr.index 93 (.agg #[.int .i64 a, .int .i64 b, .int .i64 c, .int .i64 d]) (.int .i64 3)).run Tryd.prog w = .ok (.int .i64 d) w := fun _ => by kernel_rfl
    go_loop [20] (fun i => ∃ k : Nat, k ≤ 4 ∧ i = .int .i64 k ∧ (0 < k → fineB 0 a = true) ∧ (1 < k → fineB 1 b = true) ∧ (2 < k → fineB 2 c = true) ∧ (3 < k → fineB 3 d = true)) (fun i => 4 - (intOf i).toNat)
    case atStart => exact ⟨0, by omega, rfl, by omega, by omega, by omega, by omega⟩
    case round =>
      obtain ⟨k, hk, rfl, h0, h1, h2, h3⟩ := hrel
      rcases (show k = 0 ∨ k = 1 ∨ k = 2 ∨ k = 3 ∨ k = 4 by omega) with rfl | rfl | rfl | rfl | rfl
      · have HC := Lib.hid (HM.out 0 a (by omega))
        cases hx : fineB 0 a with
        | true =>
          rw [hx] at HC
          clear HM HE HQ h0 h1 h2 h3
          go_wp2_with (go_at_call 41; refine HC.out.mono ?_; rintro e w' ⟨rfl, rfl⟩)
          go_round
          case rel => exact ⟨1, by omega, by go_num, fun _ => (by first | exact hx | trivial), by omega, by omega, by omega⟩
          case measure => simp [intOf]
        | false =>
          rw [hx] at HC HE
          obtain rfl := HE.out.symm.trans HQ.out
          clear HM HE HQ h0 h1 h2 h3 hx
          go_wp2_with (go_at_call 41; refine HC.out.mono ?_; rintro e w' ⟨rfl, rfl⟩)
          refine (wrong_any 8 (by omega) (by omega) 1 _ HL.out.names).mono ?_
          rintro e w1 ⟨x, rfl, hx, hb⟩
          have HX := Lib.hid hx
          have HB1 := Lib.hid (HB.out.trans (hb.mono HB.out.size))
          clear hx hb
          go_wp2
          go_ret
          exact ⟨_, rfl, HX.out, HB1.out⟩
      · have g0 := h0 (by omega)
        have HC := Lib.hid (HM.out 1 b (by omega))
        cases hx : fineB 1 b with
        | true =>
          rw [hx] at HC
          clear HM HE HQ h0 h1 h2 h3
          go_wp2_with (go_at_call 41; refine HC.out.mono ?_; rintro e w' ⟨rfl, rfl⟩)
          go_round
          case rel => exact ⟨2, by omega, by go_num, fun _ => g0, fun _ => (by first | exact hx | trivial), by omega, by omega⟩
          case measure => simp [intOf]
        | false =>
          rw [hx] at HC
          rw [hx, g0] at HE
          obtain rfl := HE.out.symm.trans HQ.out
          clear HM HE HQ h0 h1 h2 h3 hx g0
          go_wp2_with (go_at_call 41; refine HC.out.mono ?_; rintro e w' ⟨rfl, rfl⟩)
          refine (wrong_any 8 (by omega) (by omega) 2 _ HL.out.names).mono ?_
          rintro e w1 ⟨x, rfl, hx, hb⟩
          have HX := Lib.hid hx
          have HB1 := Lib.hid (HB.out.trans (hb.mono HB.out.size))
          clear hx hb
          go_wp2
          go_ret
          exact ⟨_, rfl, HX.out, HB1.out⟩
      · have g0 := h0 (by omega)
        have g1 := h1 (by omega)
        have HC := Lib.hid (HM.out 2 c (by omega))
        cases hx : fineB 2 c with
        | true =>
          rw [hx] at HC
          clear HM HE HQ h0 h1 h2 h3
          go_wp2_with (go_at_call 41; refine HC.out.mono ?_; rintro e w' ⟨rfl, rfl⟩)
          go_round
          case rel => exact ⟨3, by omega, by go_num, fun _ => g0, fun _ => g1, fun _ => (by first | exact hx | trivial), by omega⟩
          case measure => simp [intOf]
        | false =>
          rw [hx] at HC
          rw [hx, g0, g1] at HE
          obtain rfl := HE.out.symm.trans HQ.out
          clear HM HE HQ h0 h1 h2 h3 hx g0 g1
          go_wp2_with (go_at_call 41; refine HC.out.mono ?_; rintro e w' ⟨rfl, rfl⟩)
          refine (wrong_any 8 (by omega) (by omega) 3 _ HL.out.names).mono ?_
          rintro e w1 ⟨x, rfl, hx, hb⟩
          have HX := Lib.hid hx
          have HB1 := Lib.hid (HB.out.trans (hb.mono HB.out.size))
          clear hx hb
          go_wp2
          go_ret
          exact ⟨_, rfl, HX.out, HB1.out⟩
      · have g0 := h0 (by omega)
        have g1 := h1 (by omega)
        have g2 := h2 (by omega)
        have HC := Lib.hid (HM.out 3 d (by omega))
        cases hx : fineB 3 d with
        | true =>
          rw [hx] at HC
          clear HM HE HQ h0 h1 h2 h3
          go_wp2_with (go_at_call 41; refine HC.out.mono ?_; rintro e w' ⟨rfl, rfl⟩)
          go_round
          case rel => exact ⟨4, by omega, by go_num, fun _ => g0, fun _ => g1, fun _ => g2, fun _ => (by first | exact hx | trivial)⟩
          case measure => simp [intOf]
        | false =>
          rw [hx] at HC
          rw [hx, g0, g1, g2] at HE
          obtain rfl := HE.out.symm.trans HQ.out
          clear HM HE HQ h0 h1 h2 h3 hx g0 g1 g2
          go_wp2_with (go_at_call 41; refine HC.out.mono ?_; rintro e w' ⟨rfl, rfl⟩)
          refine (wrong_any 8 (by omega) (by omega) 4 _ HL.out.names).mono ?_
          rintro e w1 ⟨x, rfl, hx, hb⟩
          have HX := Lib.hid hx
          have HB1 := Lib.hid (HB.out.trans (hb.mono HB.out.size))
          clear hx hb
          go_wp2
          go_ret
          exact ⟨_, rfl, HX.out, HB1.out⟩
      · rw [h0 (by omega), h1 (by omega), h2 (by omega), h3 (by omega)] at HE
        obtain rfl := HE.out.symm.trans HQ.out
        clear HM HE HQ h0 h1 h2 h3
        go_wp2
        go_ret
        exact ⟨_, rfl, .inl ⟨rfl, rfl, rfl, rfl⟩, HB.out⟩
end Go.Proofs.YteadednglodgpaaDoor.Hdr
