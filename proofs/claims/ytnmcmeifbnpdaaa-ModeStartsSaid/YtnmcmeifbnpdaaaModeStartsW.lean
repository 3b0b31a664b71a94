
/- The function ModeStarts returns true for every two numbers. Condition: none. This text: the walk through the Go text; the row is in the text without the W at its name's end. -/

import Derived.Test.YtnmcmeifbnpdaaaArgs

import Derived.Test.YtnmcmeifbnpdaaaModA

import Derived.IntWalk

namespace Go.Proofs.Ytnmcmeifbnpdaaa.modeStarts

open Go.RowKit Go.PlainAid Go.Proofs.Ytnmcmeifbnpdaaa.Args

set_option linter.unusedVariables false

open Go.Proofs.Ytnmcmeifbnpdaaa.Mod

set_option linter.unusedSimpArgs false

/-- What a change is to be: of asking (i = 0), or of an action. -/
def Fine (now want : Int) (i : Nat) (M S K : Int) : Prop :=
  (K ≠ 0 ∧ M = now ∧ S = 0) ∨ (K = 0 ∧ S = 2 ∧ M = 1 ∧ 1 ≤ now ∧ now ≤ 3) ∨ (K = 0 ∧ S = 1 ∧ M = 2 ∧ 1 ≤ now ∧ now ≤ 3) ∨ (K = 0 ∧ S = 0 ∧ ((i = 0 ∧ (M = 3 ∨ M = 0) ∧ M = want) ∨ (i = 1 ∧ M = now)))
theorem ask_in {now want : Int} (h : askN now want = 0) : 0 ≤ want ∧ want ≤ 3 ∧ 1 ≤ now ∧ now ≤ 3 := by
  by_cases h1 : want < 0 ∨ 3 < want
  · unfold askN at h; rw [if_pos h1] at h; omega
  · by_cases h2 : now < 1 ∨ 3 < now
    · unfold askN at h; rw [if_neg h1, if_pos h2] at h; omega
    · omega
theorem fine_set (now want : Int) : Fine now want 0 (setM now want) (setS now want) (askN now want) := by
  by_cases h : askN now want = 0
  · obtain ⟨h1, h2, h3, h4⟩ := ask_in h
    have e1 : setM now want = want := by unfold setM; rw [if_pos h]
    have e2 : setS now want = startN want := by unfold setS; rw [if_pos h]
    rw [e1, e2, h]
    by_cases w1 : want = 1
    · exact .inr (.inl ⟨rfl, by rw [w1]; rfl, w1, h3, h4⟩)
    · by_cases w2 : want = 2
      · exact .inr (.inr (.inl ⟨rfl, by rw [w2]; rfl, w2, h3, h4⟩))
      · exact .inr (.inr (.inr ⟨rfl, by unfold startN; rw [if_neg w1, if_neg w2], .inl ⟨rfl, by omega, rfl⟩⟩))
  · have e1 : setM now want = now := by unfold setM; rw [if_neg h]
    have e2 : setS now want = 0 := by unfold setS; rw [if_neg h]
    rw [e1, e2]
    exact .inl ⟨h, rfl, rfl⟩
theorem fine_act (now act want : Int) : Fine now want 1 (if actN act = 0 then actM now act else now) (if actN act = 0 then actS now act else 0) (actN act) := by
  unfold Fine actM actS actN
  by_cases h : act < 0 ∨ 2 < act
  · left; simp [h]
  · simp only [if_neg h, if_true]
    by_cases hr : now < 1 ∨ 3 < now
    · right; right; right; simp [hr]
    · have ha : act = 0 ∨ act = 1 ∨ act = 2 := by omega
      rcases ha with rfl | rfl | rfl
      · right; right; right; simp [hr]
      · right; right; left; simp [hr]; omega
      · right; left; simp [hr]; omega
set_option maxRecDepth 4000 in
set_option maxHeartbeats 3200000 in
theorem walk (a0 : Int) (a1 : Int) (w : World) (w0 : (Lit.int .i64 a0).wf = true) (w1 : (Lit.int .i64 a1).wf = true) :
    Calls Try.prog 4 #[.int .i64 a0, .int .i64 a1] w fun e w' => e = .returned (.bool true) ∧ Below w.heap.size w w' := by
  have hf0 := fine_set a0 a1
  have hf1 := fine_act a0 a1 a1
  have hs := set_any a0 a1
  have ha := act_any a0 a1
  obtain ⟨M0, hM0⟩ : ∃ M, setM a0 a1 = M := ⟨_, rfl⟩
  obtain ⟨S0, hS0⟩ : ∃ M, setS a0 a1 = M := ⟨_, rfl⟩
  obtain ⟨K0, hK0⟩ : ∃ M, askN a0 a1 = M := ⟨_, rfl⟩
  rw [hM0, hS0, hK0] at hf0 hs
  obtain ⟨M1, hM1⟩ : ∃ M, (if actN a1 = 0 then actM a0 a1 else a0) = M := ⟨_, rfl⟩
  obtain ⟨S1, hS1⟩ : ∃ M, (if actN a1 = 0 then actS a0 a1 else 0) = M := ⟨_, rfl⟩
  obtain ⟨K1, hK1⟩ : ∃ M, actN a1 = M := ⟨_, rfl⟩
  rw [hM1, hS1] at hf1 ha
  rw [hK1] at hf1 ha
  have HF0 := Lib.hid hf0
  have HF1 := Lib.hid hf1
  have HS := Lib.hid hs
  have HA := Lib.hid ha
  clear hM0 hS0 hK0 hM1 hS1 hK1 hf0 hf1 hs ha w0 w1
  go_enter Try.func4, Try.ntmps4
  go_wp2_with fail
  refine (HS.out _).mono ?_
  rintro e w2 ⟨rfl, hb2⟩
  have HB2 := Lib.hid hb2
  go_wp2_with fail
  refine (HA.out _).mono ?_
  rintro e w3 ⟨rfl, hb3⟩
  have HB3 := Lib.hid (HB2.out.trans (hb3.mono HB2.out.size))
  clear hb2 hb3
  have hx := heap_alloc_new w3 (.cells #[.int .i64 M0, .int .i64 S0, .int .i64 K0, .int .i64 M1, .int .i64 S1, .int .i64 K1] 30)
  have HB4 : Hid (Below w.heap.size w (w3.alloc (.cells #[.int .i64 M0, .int .i64 S0, .int .i64 K0, .int .i64 M1, .int .i64 S1, .int .i64 K1] 30))) := HB3.out.trans ((Below.refl _ _).alloc HB3.out.size _)
  go_wp2_with fail
  go_loopw [15] (fun i wr => ∃ k : Nat, k ≤ 2 ∧ i = .int .i64 (k : Int) ∧ Below w.heap.size w wr ∧ wr.heap[w3.heap.size]? = some (.cells #[.int .i64 M0, .int .i64 S0, .int .i64 K0, .int .i64 M1, .int .i64 S1, .int .i64 K1] 30 (0, 0))) (fun i _ => 2 - (intOf i).toNat)
  case atStart => exact ⟨0, by omega, rfl, HB4.out, hx⟩
  case round =>
    obtain ⟨k, hk, rfl, hbw, hrow⟩ := hrel
    obtain ⟨X, hX⟩ : ∃ X, w3.heap.size = X := ⟨_, rfl⟩
    rw [hX] at hrow
    rw [hX]
    have HBW := Lib.hid hbw
    have HROW := Lib.hid hrow
    have HXX := Lib.hid hX
    clear hbw hX hx HB4
    have c0 := cell_of_row _ _ 0 _ _ _ hrow
    have c1 := cell_of_row _ _ 1 _ _ _ hrow
    have c2 := cell_of_row _ _ 2 _ _ _ hrow
    have c3 := cell_of_row _ _ 3 _ _ _ hrow
    have c4 := cell_of_row _ _ 4 _ _ _ hrow
    have c5 := cell_of_row _ _ 5 _ _ _ hrow
    simp only [List.getElem?_toArray, List.getElem?_cons_zero, List.getElem?_cons_succ] at c0 c1 c2 c3 c4 c5
    have HREL : Hid (∀ (j : Nat) (y : World), j ≤ 2 → Below wr.heap.size wr y → ∃ k' : Nat, k' ≤ 2 ∧ Value.int .i64 (j : Int) = .int .i64 (k' : Int) ∧ Below w.heap.size w y ∧ y.heap[X]? = some (.cells #[.int .i64 M0, .int .i64 S0, .int .i64 K0, .int .i64 M1, .int .i64 S1, .int .i64 K1] 30 (0, 0))) :=
      fun j y hj hb => ⟨j, hj, rfl, HBW.out.trans (hb.mono HBW.out.size), (hb.block X (lt_of_block HROW.out)).trans HROW.out⟩
    clear hrow
    rcases (show k = 0 ∨ k = 1 ∨ k = 2 by omega) with rfl | rfl | rfl
    · clear hk
      rcases HF0.out with ⟨hK, rfl, rfl⟩ | ⟨rfl, rfl, rfl, h1, h2⟩ | ⟨rfl, rfl, rfl, h1, h2⟩ | ⟨rfl, rfl, ⟨-, h1, rfl⟩ | ⟨h0, -⟩⟩
      · have tk : (K0 != 0) = true := by simp [hK]
        clear hK HF0 HF1
        go_wp2
        go_roundw
        case rel => exact HREL.out 1 _ (by omega) ((Below.refl _ _).alloc (Nat.le_refl _) _)
        case measure => simp [intOf]
      · have H1 := Lib.hid h1
        have H2 := Lib.hid h2
        clear h1 h2 HF0 HF1
        go_wp2_with (go_at_call 13; refine (runs_yes a0 _ H1.out H2.out).mono ?_; rintro e w' ⟨rfl, rfl⟩)
        go_roundw
        case rel => exact HREL.out 1 _ (by omega) ((Below.refl _ _).alloc (Nat.le_refl _) _)
        case measure => simp [intOf]
      · have H1 := Lib.hid h1
        have H2 := Lib.hid h2
        clear h1 h2 HF0 HF1
        go_wp2_with (go_at_call 13; refine (runs_yes a0 _ H1.out H2.out).mono ?_; rintro e w' ⟨rfl, rfl⟩)
        go_roundw
        case rel => exact HREL.out 1 _ (by omega) ((Below.refl _ _).alloc (Nat.le_refl _) _)
        case measure => simp [intOf]
      · rcases h1 with rfl | rfl
        all_goals
          clear HF0 HF1
          go_wp2
          go_roundw
          case rel => exact HREL.out 1 _ (by omega) ((Below.refl _ _).alloc (Nat.le_refl _) _)
          case measure => simp [intOf]
      · omega
    · clear hk
      rcases HF1.out with ⟨hK, rfl, rfl⟩ | ⟨rfl, rfl, rfl, h1, h2⟩ | ⟨rfl, rfl, rfl, h1, h2⟩ | ⟨rfl, rfl, ⟨h0, -⟩ | ⟨-, rfl⟩⟩
      · have tk : (K1 != 0) = true := by simp [hK]
        clear hK HF0 HF1
        go_wp2
        go_roundw
        case rel => exact HREL.out 2 _ (by omega) ((Below.refl _ _).alloc (Nat.le_refl _) _)
        case measure => simp [intOf]
      · have H1 := Lib.hid h1
        have H2 := Lib.hid h2
        clear h1 h2 HF0 HF1
        go_wp2_with (go_at_call 13; refine (runs_yes a0 _ H1.out H2.out).mono ?_; rintro e w' ⟨rfl, rfl⟩)
        go_roundw
        case rel => exact HREL.out 2 _ (by omega) ((Below.refl _ _).alloc (Nat.le_refl _) _)
        case measure => simp [intOf]
      · have H1 := Lib.hid h1
        have H2 := Lib.hid h2
        clear h1 h2 HF0 HF1
        go_wp2_with (go_at_call 13; refine (runs_yes a0 _ H1.out H2.out).mono ?_; rintro e w' ⟨rfl, rfl⟩)
        go_roundw
        case rel => exact HREL.out 2 _ (by omega) ((Below.refl _ _).alloc (Nat.le_refl _) _)
        case measure => simp [intOf]
      · omega
      · clear HF0 HF1
        go_wp2
        go_roundw
        case rel => exact HREL.out 2 _ (by omega) ((Below.refl _ _).alloc (Nat.le_refl _) _)
        case measure => simp [intOf]
    · clear hk c0 c1 c2 c3 c4 c5
      go_wp2_with (go_at_call 8; refine (awake_any _).mono ?_; rintro e w' ⟨rfl, hbel⟩; have HBL := Lib.hid (HBW.out.trans (hbel.mono HBW.out.size)); clear hbel)
      go_ret
      exact ⟨rfl, HBL.out⟩

end Go.Proofs.Ytnmcmeifbnpdaaa.modeStarts
