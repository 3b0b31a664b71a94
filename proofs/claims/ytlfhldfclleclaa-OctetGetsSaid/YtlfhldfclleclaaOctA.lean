/- What the calls of package octet that only reckon (width, Fits, Bit, Count, Signed), and the document's answers for them (Size, power, Fits, Bit, Count, Signed), return, for every argument. No condition but that the arguments fit their kinds. -/
import Derived.Test.YtlfhldfclleclaaProg
import Derived.Test.YtlfhldfclleclaaOctM
import Derived.WalkKit
import Derived.Lib.Hide
namespace Go.Proofs.Ytlfhldfclleclaa.Oct
open Go.RowKit

theorem width_any (n : Int) (w : World) :
    Calls Try.prog 30 #[.int .i64 n] w fun e w' => e = .returned (.int .i64 (wd n)) ∧ w = w' := by
  rcases size_cases n with rfl | rfl | rfl | rfl | ⟨h1, h2, h4, h8⟩
  iterate 4
    · go_enter Try.func30, Try.ntmps30
      go_wp2
      go_ret
      exact ⟨rfl, rfl⟩
  · have e := wd_none ⟨h1, h2, h4, h8⟩
    have b1 : (n == 1) = false := by simpa using h1
    have b2 : (n == 2) = false := by simpa using h2
    have b4 : (n == 4) = false := by simpa using h4
    have b8 : (n == 8) = false := by simpa using h8
    rw [e]
    clear e
    go_enter Try.func30, Try.ntmps30
    go_wp2
    go_ret
    exact ⟨rfl, rfl⟩

theorem size_any (n : Int) (w : World) :
    Calls Try.prog 31 #[.int .i64 n] w fun e w' => e = .returned (.bool (sizeB n)) ∧ w = w' := by
  rcases size_cases n with rfl | rfl | rfl | rfl | ⟨h1, h2, h4, h8⟩
  iterate 4
    · go_enter Try.func31, Try.ntmps31
      go_wp2
      go_ret
      exact ⟨rfl, rfl⟩
  · have e := sizeB_none ⟨h1, h2, h4, h8⟩
    have b1 : (n == 1) = false := by simpa using h1
    have b2 : (n == 2) = false := by simpa using h2
    have b4 : (n == 4) = false := by simpa using h4
    have b8 : (n == 8) = false := by simpa using h8
    rw [e]
    clear e
    go_enter Try.func31, Try.ntmps31
    go_wp2
    go_ret
    exact ⟨rfl, rfl⟩

theorem width_at {n m : Int} (h : wd n = m) (w : World) :
    Calls Try.prog 30 #[.int .i64 n] w fun e w' => e = .returned (.int .i64 m) ∧ w = w' := by
  subst h; exact width_any n w
theorem size_at {n : Int} {b : Bool} (h : sizeB n = b) (w : World) :
    Calls Try.prog 31 #[.int .i64 n] w fun e w' => e = .returned (.bool b) ∧ w = w' := by
  subst h; exact size_any n w

/-- Whether a number fits, asked of the program. -/
theorem fits_any (v : Nat) (n : Int) (hv : v ≤ 18446744073709551615) (w : World) :
    Calls Try.prog 12 #[.int .u64 v, .int .i64 n] w fun e w' => e = .returned (.bool (fitB v n)) ∧ w = w' := by
  rcases size_cases n with rfl | rfl | rfl | rfl | h
  · go_enter Try.func12, Try.ntmps12
    go_wp2_with (go_at_call 30; refine (width_at (m := 8) rfl _).mono ?_; rintro e w' ⟨rfl, rfl⟩)
    go_ret
    exact ⟨ret_bool (fit_1 v), rfl⟩
  · go_enter Try.func12, Try.ntmps12
    go_wp2_with (go_at_call 30; refine (width_at (m := 16) rfl _).mono ?_; rintro e w' ⟨rfl, rfl⟩)
    go_ret
    exact ⟨ret_bool (fit_2 v), rfl⟩
  · go_enter Try.func12, Try.ntmps12
    go_wp2_with (go_at_call 30; refine (width_at (m := 32) rfl _).mono ?_; rintro e w' ⟨rfl, rfl⟩)
    go_ret
    exact ⟨ret_bool (fit_4 v), rfl⟩
  · have hz : ((v : Int) / 18446744073709551616 == 0) = true := by simp; omega
    go_enter Try.func12, Try.ntmps12
    go_wp2_with (go_at_call 30; refine (width_at (m := 64) rfl _).mono ?_; rintro e w' ⟨rfl, rfl⟩)
    go_ret
    exact ⟨ret_bool (fitB_8 v).symm, rfl⟩
  · have hw := wd_none h
    have hf := fitB_none v h
    rw [hf]
    go_enter Try.func12, Try.ntmps12
    go_wp2_with (go_at_call 30; refine (width_at hw _).mono ?_; rintro e w' ⟨rfl, rfl⟩)
    go_ret
    exact ⟨rfl, rfl⟩
/-- 2 to a power, asked of the document. -/
theorem power_any (n : Nat) (hn : n ≤ 63) (w : World) :
    Calls Try.prog 32 #[.int .i64 n] w fun e w' => e = .returned (.int .u64 ((2 ^ n : Nat) : Int)) ∧ w = w' := by
  go_enter Try.func32, Try.ntmps32
  go_wp2
  go_loop [3, 4] (fun v i => ∃ k : Nat, k ≤ n ∧ i = .int .i64 k ∧ v = .int .u64 ((2 ^ k : Nat) : Int)) (fun _ i => n - (intOf i).toNat)
  case atStart => exact ⟨0, Nat.zero_le _, rfl, rfl⟩
  case round =>
    obtain ⟨k, hk, rfl, rfl⟩ := hrel
    obtain ⟨P, hP⟩ : ∃ P : Nat, P = 2 ^ k := ⟨_, rfl⟩
    rw [← hP]
    by_cases hlt : k < n
    · have hb : P < 9223372036854775808 := by rw [hP]; exact Nat.pow_lt_pow_right (by omega) (show k < 63 by omega)
      have HS : Hid (2 ^ (k + 1) = 2 * P) := by rw [hP, Nat.pow_succ]; exact Nat.mul_comm _ _
      clear hP
      go_wp2
      go_round
      case rel => exact ⟨k + 1, by omega, by go_num, by rw [HS.out]; go_num⟩
      case measure => simp [intOf]; omega
    · obtain rfl : k = n := by omega
      have HP := Lib.hid hP
      clear hP
      go_wp2
      go_ret
      exact ⟨ret_int (by rw [HP.out]; simp), rfl⟩
/-- How many bits are 1, asked of the program. -/
theorem count_any (v : Nat) (hv : v ≤ 18446744073709551615) (w : World) :
    Calls Try.prog 18 #[.int .u64 v] w fun e w' => e = .returned (.int .i64 (pc v)) ∧ w = w' := by
  have hp : pc v ≤ 64 := pc_le64 (by omega)
  go_enter Try.func18, Try.ntmps18
  go_wp2
  go_loop [0, 3] (fun x c => ∃ (y d : Nat), y ≤ v ∧ d + pc y = pc v ∧ x = .int .u64 y ∧ c = .int .i64 d) (fun x _ => (intOf x).toNat)
  case atStart => exact ⟨v, 0, Nat.le_refl _, by omega, rfl, rfl⟩
  case round =>
    obtain ⟨y, d, hy, hd, rfl, rfl⟩ := hrel
    by_cases h0 : y = 0
    · subst h0
      rw [pc_zero] at hd
      have HD := Lib.hid hd
      clear hd
      go_wp2
      go_ret
      exact ⟨ret_int (by have := HD.out; omega), rfl⟩
    · have hr := and_pred_run y h0 (by omega)
      have hlt := and_pred_lt h0
      have hdr := pc_drop y h0
      have hne : ((y : Int) != 0) = true := by simp; omega
      obtain ⟨z, hz⟩ : ∃ z, z = y &&& (y - 1) := ⟨_, rfl⟩
      rw [← hz] at hr hlt hdr
      have hdl : d < 64 := by omega
      have HD : Hid (d + 1 + pc z = pc v) := by show _ = _; omega
      clear hd hdr hz
      go_wp2
      go_round
      case rel => exact ⟨z, d + 1, by omega, HD.out, rfl, by go_num⟩
      case measure => simp [intOf]; omega
/-- How many bits are 1, asked of the document. -/
theorem rcount_any (v : Nat) (hv : v ≤ 18446744073709551615) (w : World) :
    Calls Try.prog 19 #[.int .u64 v] w fun e w' => e = .returned (.int .i64 (pc v)) ∧ w = w' := by
  have hp : pc v ≤ 64 := pc_le64 (by omega)
  go_enter Try.func19, Try.ntmps19
  go_wp2
  go_loop [0, 3] (fun x c => ∃ (y d : Nat), y ≤ v ∧ d + pc y = pc v ∧ x = .int .u64 y ∧ c = .int .i64 d) (fun x _ => (intOf x).toNat)
  case atStart => exact ⟨v, 0, Nat.le_refl _, by omega, rfl, rfl⟩
  case round =>
    obtain ⟨y, d, hy, hd, rfl, rfl⟩ := hrel
    by_cases h0 : y = 0
    · subst h0
      rw [pc_zero] at hd
      have HD := Lib.hid hd
      clear hd
      go_wp2
      go_ret
      exact ⟨ret_int (by have := HD.out; omega), rfl⟩
    · have hst := pc_step y
      have hdl : d ≤ 64 := by omega
      have HD : Hid (d + y % 2 + pc (y / 2) = pc v) := by show _ = _; omega
      clear hd hst
      have hpos : 0 < y := by omega
      go_wp2
      go_round
      case rel => exact ⟨y / 2, d + y % 2, by omega, HD.out, by go_num, by go_num⟩
      case measure => simp [intOf]; omega
end Go.Proofs.Ytlfhldfclleclaa.Oct
