/- What package octet's Bit and Signed return, and the document's Bit, Fits and Signed, for every argument. No condition but that the arguments fit their kinds. -/
import Derived.Test.YtlfhldfclleclaaOctA
namespace Go.Proofs.Ytlfhldfclleclaa.Oct
open Go.RowKit

/-- Bit k of v. -/
def bitB (v k : Nat) : Bool := v / 2 ^ k % 2 == 1
theorem bit_run (v k : Nat) (hv : v ≤ 18446744073709551615) : bits .and .u64 ((v : Int) / 2 ^ k) 1 = ((v / 2 ^ k % 2 : Nat) : Int) := by
  have h := and_one_run (v / 2 ^ k) (by have := Nat.div_le_self v (2 ^ k); omega)
  rw [Int.natCast_ediv] at h
  simpa using h
theorem bit_end (v k : Nat) : (((v / 2 ^ k % 2 : Nat) : Int) == 1) = bitB v k := by
  unfold bitB; generalize v / 2 ^ k % 2 = x; rw [Bool.eq_iff_iff]; simp; omega
theorem div_step (v j : Nat) : v / 2 ^ (j + 1) = v / 2 ^ j / 2 := by rw [Nat.pow_succ, Nat.div_div_eq_div_mul]

/-- A bit, asked of the program: inside 0 to 63. -/
theorem bit_in (v k : Nat) (hv : v ≤ 18446744073709551615) (hk : k ≤ 63) (w : World) :
    Calls Try.prog 17 #[.int .u64 v, .int .i64 k] w fun e w' => e = .returned (.bool (bitB v k)) ∧ w = w' := by
  have hr := bit_run v k hv
  go_enter Try.func17, Try.ntmps17
  go_wp2
  go_ret
  exact ⟨ret_bool (bit_end v k), rfl⟩
theorem bit_out (v : Nat) (i : Int) (hi : i < 0 ∨ 63 < i) (w : World) :
    Calls Try.prog 17 #[.int .u64 v, .int .i64 i] w fun e w' => e = .returned (.bool false) ∧ w = w' := by
  rcases hi with h | h
  · go_enter Try.func17, Try.ntmps17
    go_wp2
    go_ret
    exact ⟨rfl, rfl⟩
  · go_enter Try.func17, Try.ntmps17
    go_wp2
    go_ret
    exact ⟨rfl, rfl⟩
/-- A bit, asked of the document. -/
theorem rbit_in (v k : Nat) (hv : v ≤ 18446744073709551615) (hk : k ≤ 63) (w : World) :
    Calls Try.prog 16 #[.int .u64 v, .int .i64 k] w fun e w' => e = .returned (.bool (bitB v k)) ∧ w = w' := by
  go_enter Try.func16, Try.ntmps16
  go_wp2
  go_loop [0, 5] (fun x i => ∃ j : Nat, j ≤ k ∧ i = .int .i64 j ∧ x = .int .u64 ((v / 2 ^ j : Nat) : Int)) (fun _ i => k - (intOf i).toNat)
  case atStart => exact ⟨0, Nat.zero_le _, rfl, by simp⟩
  case round =>
    obtain ⟨j, hj, rfl, rfl⟩ := hrel
    obtain ⟨P, hP⟩ : ∃ P : Nat, P = v / 2 ^ j := ⟨_, rfl⟩
    have hb : P ≤ v := by rw [hP]; exact Nat.div_le_self _ _
    rw [← hP]
    by_cases hlt : j < k
    · have HS : Hid (v / 2 ^ (j + 1) = P / 2) := by rw [div_step, hP]; exact rfl
      clear hP
      go_wp2
      go_round
      case rel => exact ⟨j + 1, by omega, by go_num, by rw [HS.out]; go_num⟩
      case measure => simp [intOf]; omega
    · obtain rfl : j = k := by omega
      have HP := Lib.hid hP
      clear hP
      go_wp2
      go_ret
      exact ⟨ret_bool (by unfold bitB; rw [← HP.out, Bool.eq_iff_iff]; simp; omega), rfl⟩

/-- Whether a number fits, asked of the document. -/
theorem power_at (n : Nat) {m P : Int} (hn : n ≤ 63) (hm : (n : Int) = m) (h : ((2 ^ n : Nat) : Int) = P) (w : World) :
    Calls Try.prog 32 #[.int .i64 m] w fun e w' => e = .returned (.int .u64 P) ∧ w = w' := by
  subst h; subst hm; exact power_any n hn w
theorem rfits_any (v : Nat) (n : Int) (_hv : v ≤ 18446744073709551615) (w : World) :
    Calls Try.prog 11 #[.int .u64 v, .int .i64 n] w fun e w' => e = .returned (.bool (fitB v n)) ∧ w = w' := by
  rcases size_cases n with rfl | rfl | rfl | rfl | h
  · go_enter Try.func11, Try.ntmps11
    go_wp2_with (first | (go_at_call 31; refine (size_at (b := true) rfl _).mono ?_; rintro e w' ⟨rfl, rfl⟩) | (go_at_call 32; refine (power_at 8 (P := 256) (by decide) rfl rfl _).mono ?_; rintro e w' ⟨rfl, rfl⟩))
    go_ret
    exact ⟨ret_bool (rfit_1 v), rfl⟩
  · go_enter Try.func11, Try.ntmps11
    go_wp2_with (first | (go_at_call 31; refine (size_at (b := true) rfl _).mono ?_; rintro e w' ⟨rfl, rfl⟩) | (go_at_call 32; refine (power_at 16 (P := 65536) (by decide) rfl rfl _).mono ?_; rintro e w' ⟨rfl, rfl⟩))
    go_ret
    exact ⟨ret_bool (rfit_2 v), rfl⟩
  · go_enter Try.func11, Try.ntmps11
    go_wp2_with (first | (go_at_call 31; refine (size_at (b := true) rfl _).mono ?_; rintro e w' ⟨rfl, rfl⟩) | (go_at_call 32; refine (power_at 32 (P := 4294967296) (by decide) rfl rfl _).mono ?_; rintro e w' ⟨rfl, rfl⟩))
    go_ret
    exact ⟨ret_bool (rfit_4 v), rfl⟩
  · go_enter Try.func11, Try.ntmps11
    go_wp2_with (go_at_call 31; refine (size_at (b := true) rfl _).mono ?_; rintro e w' ⟨rfl, rfl⟩)
    go_ret
    exact ⟨ret_bool (fitB_8 v).symm, rfl⟩
  · have hs := sizeB_none h
    have hf := fitB_none v h
    rw [hf]
    go_enter Try.func11, Try.ntmps11
    go_wp2_with (go_at_call 31; refine (size_at hs _).mono ?_; rintro e w' ⟨rfl, rfl⟩)
    go_ret
    exact ⟨rfl, rfl⟩

/-- A number with a sign, asked of the program. -/
theorem signed_any (v : Nat) (n : Int) (hv : v ≤ 18446744073709551615) (w : World) :
    Calls Try.prog 20 #[.int .u64 v, .int .i64 n] w fun e w' => e = .returned (.int .i64 (sg v n)) ∧ w = w' := by
  rcases size_cases n with rfl | rfl | rfl | rfl | h
  · go_enter Try.func20, Try.ntmps20
    go_wp2_with (go_at_call 30; refine (width_at (m := 8) rfl _).mono ?_; rintro e w' ⟨rfl, rfl⟩)
    go_ret
    exact ⟨ret_int (shl_1 v), rfl⟩
  · go_enter Try.func20, Try.ntmps20
    go_wp2_with (go_at_call 30; refine (width_at (m := 16) rfl _).mono ?_; rintro e w' ⟨rfl, rfl⟩)
    go_ret
    exact ⟨ret_int (shl_2 v), rfl⟩
  · go_enter Try.func20, Try.ntmps20
    go_wp2_with (go_at_call 30; refine (width_at (m := 32) rfl _).mono ?_; rintro e w' ⟨rfl, rfl⟩)
    go_ret
    exact ⟨ret_int (shl_4 v), rfl⟩
  · go_enter Try.func20, Try.ntmps20
    go_wp2_with (go_at_call 30; refine (width_at (m := 64) rfl _).mono ?_; rintro e w' ⟨rfl, rfl⟩)
    go_ret
    exact ⟨ret_int (shl_8 v (by omega)), rfl⟩
  · have hw := wd_none h
    have hf := sg_none v h
    rw [hf]
    go_enter Try.func20, Try.ntmps20
    go_wp2_with (go_at_call 30; refine (width_at hw _).mono ?_; rintro e w' ⟨rfl, rfl⟩)
    go_ret
    exact ⟨rfl, rfl⟩
/-- A number with a sign, asked of the document. -/
theorem rsigned_any (v : Nat) (n : Int) (hv : v ≤ 18446744073709551615) (w : World) :
    Calls Try.prog 21 #[.int .u64 v, .int .i64 n] w fun e w' => e = .returned (.int .i64 (sg v n)) ∧ w = w' := by
  rcases size_cases n with rfl | rfl | rfl | rfl | h
  · rcases Int.lt_or_le ((v : Int) % 256) 128 with hs | hs
    · have hd : decide (128 ≤ (v : Int) % 256) = false := decide_eq_false (by omega)
      have HS := Lib.hid hs
      clear hs
      go_enter Try.func21, Try.ntmps21
      go_wp2_with (first | (go_at_call 31; refine (size_at (b := true) rfl _).mono ?_; rintro e w' ⟨rfl, rfl⟩) | (go_at_call 32; refine (power_at 8 (P := 256) (by decide) rfl rfl _).mono ?_; rintro e w' ⟨rfl, rfl⟩))
      go_ret
      exact ⟨ret_int (sg_lo1 v HS.out), rfl⟩
    · go_enter Try.func21, Try.ntmps21
      go_wp2_with (first | (go_at_call 31; refine (size_at (b := true) rfl _).mono ?_; rintro e w' ⟨rfl, rfl⟩) | (go_at_call 32; refine (power_at 8 (P := 256) (by decide) rfl rfl _).mono ?_; rintro e w' ⟨rfl, rfl⟩))
      go_ret
      exact ⟨ret_int (sg_hi1 v hs), rfl⟩
  · rcases Int.lt_or_le ((v : Int) % 65536) 32768 with hs | hs
    · have hd : decide (32768 ≤ (v : Int) % 65536) = false := decide_eq_false (by omega)
      have HS := Lib.hid hs
      clear hs
      go_enter Try.func21, Try.ntmps21
      go_wp2_with (first | (go_at_call 31; refine (size_at (b := true) rfl _).mono ?_; rintro e w' ⟨rfl, rfl⟩) | (go_at_call 32; refine (power_at 16 (P := 65536) (by decide) rfl rfl _).mono ?_; rintro e w' ⟨rfl, rfl⟩))
      go_ret
      exact ⟨ret_int (sg_lo2 v HS.out), rfl⟩
    · go_enter Try.func21, Try.ntmps21
      go_wp2_with (first | (go_at_call 31; refine (size_at (b := true) rfl _).mono ?_; rintro e w' ⟨rfl, rfl⟩) | (go_at_call 32; refine (power_at 16 (P := 65536) (by decide) rfl rfl _).mono ?_; rintro e w' ⟨rfl, rfl⟩))
      go_ret
      exact ⟨ret_int (sg_hi2 v hs), rfl⟩
  · rcases Int.lt_or_le ((v : Int) % 4294967296) 2147483648 with hs | hs
    · have hd : decide (2147483648 ≤ (v : Int) % 4294967296) = false := decide_eq_false (by omega)
      have HS := Lib.hid hs
      clear hs
      go_enter Try.func21, Try.ntmps21
      go_wp2_with (first | (go_at_call 31; refine (size_at (b := true) rfl _).mono ?_; rintro e w' ⟨rfl, rfl⟩) | (go_at_call 32; refine (power_at 32 (P := 4294967296) (by decide) rfl rfl _).mono ?_; rintro e w' ⟨rfl, rfl⟩))
      go_ret
      exact ⟨ret_int (sg_lo4 v HS.out), rfl⟩
    · go_enter Try.func21, Try.ntmps21
      go_wp2_with (first | (go_at_call 31; refine (size_at (b := true) rfl _).mono ?_; rintro e w' ⟨rfl, rfl⟩) | (go_at_call 32; refine (power_at 32 (P := 4294967296) (by decide) rfl rfl _).mono ?_; rintro e w' ⟨rfl, rfl⟩))
      go_ret
      exact ⟨ret_int (sg_hi4 v hs), rfl⟩
  · go_enter Try.func21, Try.ntmps21
    go_wp2_with (go_at_call 31; refine (size_at (b := true) rfl _).mono ?_; rintro e w' ⟨rfl, rfl⟩)
    go_ret
    exact ⟨ret_int (shl_8 v (by omega)), rfl⟩
  · have hs := sizeB_none h
    have hf := sg_none v h
    rw [hf]
    go_enter Try.func21, Try.ntmps21
    go_wp2_with (go_at_call 31; refine (size_at hs _).mono ?_; rintro e w' ⟨rfl, rfl⟩)
    go_ret
    exact ⟨rfl, rfl⟩
end Go.Proofs.Ytlfhldfclleclaa.Oct
