/- The function ClockJoins returns true for every time and every two counts. Condition: none. This text: the walk through the Go text; the row is in the text without the W at its name's end. -/
import Derived.Test.YtbamildjaolheaaArgs
import Derived.Test.YtbamildjaolheaaClkA
namespace Go.Proofs.Ytbamildjaolheaa.clockJoins
open Go.RowKit Go.PlainAid Go.Proofs.Ytbamildjaolheaa.Args
set_option linter.unusedVariables false

open Go.Proofs.Ytbamildjaolheaa.Clk
set_option maxHeartbeats 1600000 in
theorem walk (a0 : Int) (a1 : Int) (a2 : Int) (w : World) (w0 : (Lit.int .u64 a0).wf = true) (w1 : (Lit.int .u32 a1).wf = true) (w2 : (Lit.int .u32 a2).wf = true) :
    Calls Try.prog 5 #[.int .u64 a0, .int .u32 a1, .int .u32 a2] w fun e w' => e = .returned (.bool true) ∧ Below w.heap.size w w' := by
  have b0 := bounds_u64 w0
  have b1 := bounds_u32 w1
  have b2 := bounds_u32 w2
  obtain ⟨t, rfl⟩ : ∃ t : Nat, a0 = t := ⟨a0.toNat, by omega⟩
  obtain ⟨a, rfl⟩ : ∃ a : Nat, a1 = a := ⟨a1.toNat, by omega⟩
  obtain ⟨b, rfl⟩ : ∃ b : Nat, a2 = b := ⟨a2.toNat, by omega⟩
  have ht : t ≤ 18446744073709551615 := by omega
  have ha : a ≤ 4294967295 := by omega
  have hb : b ≤ 4294967295 := by omega
  clear w0 w1 w2 b0 b1 b2
  obtain ⟨A, hA⟩ : ∃ A, went t a = A := ⟨_, rfl⟩
  obtain ⟨T1, hT1⟩ : ∃ T1, t + A = T1 := ⟨_, rfl⟩
  obtain ⟨B, hB⟩ : ∃ B, went T1 b = B := ⟨_, rfl⟩
  obtain ⟨T2, hT2⟩ : ∃ T2, T1 + B = T2 := ⟨_, rfl⟩
  obtain ⟨K, hK⟩ : ∃ K, went t ((a : Int) + (b : Int)) = K := ⟨_, rfl⟩
  have hABK : A + B = K := by unfold went at hA hB hK; omega
  have hT2K : t + K = T2 := by omega
  have hT1m : T1 ≤ 18446744073709551615 := by unfold went at hA; omega
  have hT2m : T2 ≤ 18446744073709551615 := by unfold went at hA hB; omega
  have hAl : A ≤ 4294967295 := by unfold went at hA; omega
  have hBl : B ≤ 4294967295 := by unfold went at hB; omega
  have hKl : K ≤ 8589934590 := by omega
  have htT : t ≤ T2 := by omega
  have t1 : ((A : Int) + (B : Int) != (K : Int)) = false := by simp; omega
  have t2 : decide ((T2 : Int) < (t : Int)) = false := decide_eq_false (by omega)
  have t3 : ((K : Int) != (T2 : Int) - (t : Int)) = false := by simp; omega
  have HA := Lib.hid hA
  have HT1 := Lib.hid hT1
  have HB := Lib.hid hB
  have HT2 := Lib.hid hT2
  have HK := Lib.hid hK
  have HT2K := Lib.hid hT2K
  clear hA hT1 hB hT2 hK hABK hT2K
  go_enter Try.func5, Try.ntmps5
  go_wp2_with fail
  refine (cnew_any t _).mono ?_
  rintro e w1 ⟨g, hg, rfl, hc1, hb1⟩
  go_wp2_with fail
  refine (cnew_any t _).mono ?_
  rintro e w2 ⟨d, hd, rfl, hd2, hb2⟩
  have hgl : g < w1.heap.size := lt_of_block hc1
  have hc2 := below_clk hb2 hgl hc1
  have hgd : g ≠ d := by omega
  clear hc1
  go_wp2_with fail
  refine (crun_at g t a A T1 _ ht (by omega) HA.out HT1.out hc2).mono ?_
  rintro e w3 ⟨rfl, hc3, hb3, ho3⟩
  have hd3 := ho3.clk (Ne.symm hgd) hd2
  go_wp2_with fail
  refine (crun_at g T1 b B T2 _ hT1m (by omega) HB.out HT2.out hc3).mono ?_
  rintro e w4 ⟨rfl, hc4, hb4, ho4⟩
  have hd4 := ho4.clk (Ne.symm hgd) hd3
  go_wp2_with fail
  refine (crun_at d t _ K T2 _ ht (by omega) HK.out HT2K.out hd4).mono ?_
  rintro e w5 ⟨rfl, hd5, hb5, ho5⟩
  have hc5 := ho5.clk hgd hc4
  have hbel : Below w.heap.size w w5 := hb1.trans ((hb2.mono hb1.size).trans (((hb3.trans hb4).mono hg).trans (hb5.mono (Nat.le_trans hb1.size hd))))
  clear hb1 hb2 hb3 hb4 hb5 hc2 hc3 hc4 hd2 hd3 hd4
  by_cases hm : T2 = 18446744073709551615
  · have TM : Hid (((T2 : Int) == 18446744073709551615) = true) := by show _ = _; simp; omega
    have T3 : Hid ((((went T2 1 : Nat) : Int) == 1) = false) := by
      have e : went T2 1 = 0 := by unfold went; omega
      rw [e]; exact rfl
    have T4 : Hid (T2 + went T2 1 = T2) := by show _ = _; unfold went; omega
    have T5 : Hid (went T2 5 = 0) := by show _ = _; unfold went; omega
    have T6 : Hid (18446744073709551615 - T2 = 0) := by show _ = _; omega
    clear hm
    go_wp2_with (first
      | (go_at_call_of 11 (Value.pointer (some ⟨g, 0, none⟩)); refine (cnow_any g _ _ hc5).mono ?_; rintro e w' ⟨rfl, rfl⟩)
      | (go_at_call_of 11 (Value.pointer (some ⟨d, 0, none⟩)); refine (cnow_any d _ _ hd5).mono ?_; rintro e w' ⟨rfl, rfl⟩)
      | (go_at_call 12; refine (chalt_at g _ true _ TM.out hc5).mono ?_; rintro e w' ⟨rfl, rfl⟩)
      | (go_at_call 9; refine (ctick_at g T2 false T2 _ hT2m T3.out T4.out hc5).mono ?_; rintro e w6 ⟨rfl, hc6, hb6, ho6⟩)
      | (go_at_call 10; refine (crun_at g T2 5 0 T2 _ hT2m (by omega) T5.out (by omega) hc6).mono ?_; rintro e w7 ⟨rfl, hc7, hb7, ho7⟩)
      | (go_at_call 13; refine (cleft_at g T2 0 _ hT2m T6.out hc7).mono ?_; rintro e w' ⟨rfl, rfl⟩)
      | (go_at_call 7; refine (awake_any _).mono ?_; rintro e w8 ⟨rfl, hb8⟩))
    go_ret
    exact ⟨rfl, hbel.trans (((hb6.trans hb7).mono hg).trans (hb8.mono (Nat.le_trans hbel.size (Nat.le_trans hb6.size hb7.size))))⟩
  · have tm : ((T2 : Int) == 18446744073709551615) = false := by simp; omega
    have TM := Lib.hid tm
    clear hm tm
    go_wp2_with (first
      | (go_at_call_of 11 (Value.pointer (some ⟨g, 0, none⟩)); refine (cnow_any g _ _ hc5).mono ?_; rintro e w' ⟨rfl, rfl⟩)
      | (go_at_call_of 11 (Value.pointer (some ⟨d, 0, none⟩)); refine (cnow_any d _ _ hd5).mono ?_; rintro e w' ⟨rfl, rfl⟩)
      | (go_at_call 12; refine (chalt_at g _ false _ TM.out hc5).mono ?_; rintro e w' ⟨rfl, rfl⟩)
      | (go_at_call 7; refine (awake_any _).mono ?_; rintro e w8 ⟨rfl, hb8⟩))
    go_ret
    exact ⟨rfl, hbel.trans (hb8.mono hbel.size)⟩

end Go.Proofs.Ytbamildjaolheaa.clockJoins
