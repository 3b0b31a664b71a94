/- The function CrcJoins returns true for every two texts. Condition: none. This text: the walk through the Go text; the row is in the text without the W at its name's end. -/
import Derived.Test.YtlfhldfclleclaaArgs
import Derived.Test.YtlfhldfclleclaaCrcD
namespace Go.Proofs.Ytlfhldfclleclaa.crcJoins
open Go.RowKit Go.PlainAid Go.Proofs.Ytlfhldfclleclaa.Args
set_option linter.unusedVariables false

open Go.Proofs.Ytlfhldfclleclaa.Crc
theorem cat_list (a b : ByteArray) : (a ++ b).data.toList = a.data.toList ++ b.data.toList := by simp
set_option maxHeartbeats 1600000 in
theorem walk (a0 : ByteArray) (a1 : ByteArray) (w : World) (w0 : a0.size ≤ maxLen) (w1 : a1.size ≤ maxLen) :
    Calls Try.prog 8 #[.string a0, .string a1] w fun e w' => e = .returned (.bool true) ∧ Below w.heap.size w w' := by
  unfold maxLen at w0 w1
  by_cases hl : 1000 < (a0.size : Int) ∨ 1000 < (a1.size : Int)
  · rcases hl with hl | hl
    · have t : decide (1000 < (a0.size : Int)) = true := decide_eq_true hl
      clear hl
      go_enter Try.func8, Try.ntmps8
      go_wp2_with (go_at_call 22; refine (awake_any _).mono ?_; rintro e w' ⟨rfl, hb⟩)
      go_ret
      exact ⟨rfl, hb⟩
    · have t : decide (1000 < (a1.size : Int)) = true := decide_eq_true hl
      clear hl
      by_cases hl0 : 1000 < (a0.size : Int)
      · have t0 : decide (1000 < (a0.size : Int)) = true := decide_eq_true hl0
        clear hl0
        go_enter Try.func8, Try.ntmps8
        go_wp2_with (go_at_call 22; refine (awake_any _).mono ?_; rintro e w' ⟨rfl, hb⟩)
        go_ret
        exact ⟨rfl, hb⟩
      · have t0 : decide (1000 < (a0.size : Int)) = false := decide_eq_false hl0
        clear hl0
        go_enter Try.func8, Try.ntmps8
        go_wp2_with (go_at_call 22; refine (awake_any _).mono ?_; rintro e w' ⟨rfl, hb⟩)
        go_ret
        exact ⟨rfl, hb⟩
  · have t0 : decide (1000 < (a0.size : Int)) = false := decide_eq_false (by omega)
    have t1 : decide (1000 < (a1.size : Int)) = false := decide_eq_false (by omega)
    have HS0 : Hid (a0.size ≤ 2305843009213693952) := by show _ ≤ _; omega
    have HS1 : Hid (a1.size ≤ 2305843009213693952) := by show _ ≤ _; omega
    have HS2 : Hid ((a0 ++ a1).size ≤ 2305843009213693952) := by show _ ≤ _; rw [ByteArray.size_append]; omega
    have hsum : ¬ 9223372036854775807 < a0.size + a1.size := by omega
    obtain ⟨A, hA⟩ : ∃ A, A = sum a0.data.toList := ⟨_, rfl⟩
    obtain ⟨B, hB⟩ : ∃ B, B = sum a1.data.toList := ⟨_, rfl⟩
    obtain ⟨C, hC⟩ : ∃ C, C = sum (a0 ++ a1).data.toList := ⟨_, rfl⟩
    obtain ⟨T, hT⟩ : ∃ T, T = a0 ++ a1 := ⟨_, rfl⟩
    have hcat : a0 ++ a1 = T := hT.symm
    have hAl : A < 4294967296 := by rw [hA]; exact sum_lt _
    have hBl : B < 4294967296 := by rw [hB]; exact sum_lt _
    have HA : Hid (∀ w : World, Calls Try.prog 23 #[.string a0] w fun e w' => e = .returned (.int .u32 A) ∧ Below w.heap.size w w') := by intro w; rw [hA]; exact csum_any a0 HS0.out w
    have HB : Hid (∀ w : World, Calls Try.prog 23 #[.string a1] w fun e w' => e = .returned (.int .u32 B) ∧ Below w.heap.size w w') := by intro w; rw [hB]; exact csum_any a1 HS1.out w
    have HC : Hid (∀ w : World, Calls Try.prog 24 #[.string T] w fun e w' => e = .returned (.int .u32 C) ∧ w = w') := by intro w; rw [hC, hT]; exact rsum_any (a0 ++ a1) HS2.out w
    have HD : Hid (∀ w : World, Calls Try.prog 24 #[.string a0] w fun e w' => e = .returned (.int .u32 A) ∧ w = w') := by intro w; rw [hA]; exact rsum_any a0 HS0.out w
    have HJ : Hid (∀ w : World, Calls Try.prog 29 #[.int .u32 A, .int .u32 B, .int .i64 a1.size] w fun e w' => e = .returned (.int .u32 C) ∧ w = w') := by
      intro w
      have h := join_any A B (a1.size : Int) hAl hBl (by omega) w
      have e : stk (8 * ((a1.size : Nat) : Int).toNat) A ^^^ B = C := by
        rw [hC, cat_list, sum_append, hA, hB]; simp
      rw [e] at h
      exact h
    have HK : Hid (∀ w : World, Calls Try.prog 29 #[.int .u32 A, .int .u32 0, .int .i64 (-(a1.size : Int))] w fun e w' => e = .returned (.int .u32 A) ∧ w = w') := by
      intro w
      have h := join_any A 0 (-(a1.size : Int)) hAl (by omega) (by omega) w
      have e : stk (8 * (-((a1.size : Nat) : Int)).toNat) A ^^^ 0 = A := by
        have : (-((a1.size : Nat) : Int)).toNat = 0 := by omega
        rw [this]; simp [stk]
      rw [e] at h
      exact h
    clear hl hA hB hC hT hAl hBl
    go_enter Try.func8, Try.ntmps8
    go_wp2_with fail
    refine (HA.out _).mono ?_
    rintro e w2 ⟨rfl, hb2⟩
    go_wp2_with fail
    refine (HB.out _).mono ?_
    rintro e w3 ⟨rfl, hb3⟩
    go_wp2_with fail
    refine (HJ.out _).mono ?_
    rintro e w' ⟨rfl, rfl⟩
    go_wp2_with fail
    refine (HC.out _).mono ?_
    rintro e w' ⟨rfl, rfl⟩
    go_wp2_with (first
      | (go_at_call 24; refine (HD.out _).mono ?_; rintro e w' ⟨rfl, rfl⟩)
      | (go_at_call 29; refine (HK.out _).mono ?_; rintro e w' ⟨rfl, rfl⟩)
      | (go_at_call 22; refine (awake_any _).mono ?_; rintro e w4 ⟨rfl, hb4⟩))
    go_ret
    exact ⟨rfl, hb2.trans ((hb3.trans (hb4.mono hb3.size)).mono hb2.size)⟩

end Go.Proofs.Ytlfhldfclleclaa.crcJoins
