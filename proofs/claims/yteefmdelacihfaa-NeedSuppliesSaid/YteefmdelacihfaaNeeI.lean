
/- Needs: what a partition has in a part of a frame (need.Supply). Condition: 1 to 1,048,576 ticks. -/

import Derived.Test.YteefmdelacihfaaNeeD

import Derived.Test.YteefmdelacihfaaNeeF

namespace Go.Proofs.Yteefmdelacihfaa.Nee

open Go.RowKit Go.PlainAid Go.Proofs.Yteefmdelacihfaa.Oct Go.Proofs.Yteefmdelacihfaa.Flt Go.Proofs.Yteefmdelacihfaa.Rdr Go.Proofs.Yteefmdelacihfaa.Args Go.Proofs.Yteefmdelacihfaa.Win

open Go.Proofs.Yteefmdelacihfaa.Act (I64)

set_option linter.unusedVariables false

set_option linter.unusedSimpArgs false

set_option maxRecDepth 4000 in
set_option maxHeartbeats 1600000 in
theorem nsup_any (id z f t : Int) (P C : Option Addr) (nl pc nn cc : Nat) (ws : List Int) (n : Nat) (w : World) (hw : WordAt #[.int .i64 id, .int .i64 (n : Int), .slice P nl pc, .slice C nn cc] ws n w) (hwl : ws.length = n) (h1 : 1 ≤ n) (h2 : n ≤ 1048576) :
    Calls Try.prog 9 #[.agg #[.int .i64 id, .int .i64 (n : Int), .slice P nl pc, .slice C nn cc], .int .i64 z, .int .i64 f, .int .i64 t] w fun e w' => e = .returned (.int .i64 (supN z f t ws ws.length : Nat)) ∧ Below w.heap.size w w' := by
  have hb0 : Below w.heap.size w (w.alloc (.cells #[.int .i64 id, .int .i64 (n : Int), .slice P nl pc, .slice C nn cc] 25)) := (Below.refl _ _).alloc (Nat.le_refl _) _
  have HW := Lib.hid (hw _ hb0)
  have HB0 := Lib.hid hb0
  have HWL := Lib.hid hwl
  have HN : Hid (1 ≤ n ∧ n ≤ 1048576) := ⟨h1, h2⟩
  by_cases hft : max f 0 ≥ min t (n : Int)
  · have hz : supN z f t ws ws.length = 0 := by
      have h : (((ws.take ws.length).take t.toNat).drop f.toNat) = [] := by
        apply List.eq_nil_of_length_eq_zero
        rw [List.length_drop, List.length_take, List.length_take]
        omega
      unfold supN
      rw [h]
      rfl
    rw [hz]
    have t1 : min t (n : Int) ≤ max f 0 := hft
    clear hw hb0 hwl h1 h2 hft hz
    go_enter Try.func9, Try.ntmps9
    go_wp2_with fail
    refine HW.out.mono ?_
    rintro e w2 ⟨VB, c, rfl, ho2, hb2⟩
    have HB2 := Lib.hid (HB0.out.trans (hb2.mono HB0.out.size))
    clear ho2 hb2 HW HB0
    go_wp2
    go_ret
    exact ⟨rfl, HB2.out⟩
  · obtain ⟨F, hF⟩ : ∃ F : Nat, max f 0 = (F : Int) := ⟨f.toNat, by omega⟩
    obtain ⟨T, hT⟩ : ∃ T : Nat, min t (n : Int) = (T : Int) := ⟨(min t (n : Int)).toNat, by omega⟩
    rw [hF, hT] at hft
    have hFT : F < T := by omega
    have hTn : T ≤ n := by omega
    have hz : supN z f t ws ws.length = cntZ z ((ws.drop F).take (T - F)) := by
      unfold supN
      rw [List.take_length, show f.toNat = F by omega, ← List.drop_take]
      congr 2
      rcases Nat.lt_or_ge t.toNat n with h | h
      · rw [show t.toNat = T by omega]
      · rw [List.take_of_length_le (by omega), List.take_of_length_le (by omega)]
    obtain ⟨r, hr⟩ : ∃ r, supN z f t ws ws.length = r := ⟨_, rfl⟩
    rw [hr]
    rw [hr] at hz
    have HCN : Hid (∀ W VB c, ZAt W ⟨VB, 0, none⟩ ws → Calls Try.prog 23 #[.slice (some ⟨VB, F, none⟩) (T - F) c, .int .i64 z] W fun e w' => e = .returned (.int .i64 (r : Int)) ∧ W = w') := fun W VB c h => by
      have e1 : (Addr.mk VB 0 none).add F = ⟨VB, F, none⟩ := by cases F <;> simp [Addr.add]
      have hh := h.part F (T - F)
      rw [e1] at hh
      have h3 := ncount_any z _ ⟨VB, F, none⟩ (T - F) c W hh (by rw [List.length_take, List.length_drop]; omega) (by omega)
      rw [← hz] at h3
      exact h3
    have t1 : ¬ (T : Int) ≤ (F : Int) := by omega
    have t2 : (0 : Int) ≤ F := by omega
    have t3 : (F : Int) ≤ T := by omega
    have t5 : F ≤ T := by omega
    have HQ : Hid (F < T ∧ T ≤ n) := ⟨hFT, hTn⟩
    clear hw hb0 hwl h1 h2 hft hz hr
    go_enter Try.func9, Try.ntmps9
    go_wp2_with fail
    refine HW.out.mono ?_
    rintro e w2 ⟨VB, c, rfl, ho2, hb2⟩
    have HB2 := Lib.hid (HB0.out.trans (hb2.mono HB0.out.size))
    have HZ2 := Lib.hid (own_zat ho2 HWL.out)
    have hcap := (own_cap ho2).1
    have q4 : (T : Int) ≤ c := by omega
    have q5 : ¬ c = F := by omega
    have q6 : ¬ c - F = 0 := by omega
    have q7 : T ≤ c := by omega
    clear ho2 hb2 HW HB0 hcap
    go_wp2_with fail
    refine (HCN.out _ _ _ HZ2.out).mono ?_
    rintro e w3 ⟨rfl, rfl⟩
    go_wp2
    go_ret
    exact ⟨rfl, HB2.out⟩
end Go.Proofs.Yteefmdelacihfaa.Nee
