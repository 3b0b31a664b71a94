
/- What the calls of package octet that only reckon (width, Fits, Bit, Count, Signed), and the document's answers for them (Size, power, Fits, Bit, Count, Signed), return, for every argument. No condition but that the arguments fit their kinds. What package octet's Bit and Signed return, and the document's Bit, Fits and Signed, for every argument. No condition but that the arguments fit their kinds. What package octet's Get, and the document's, return: the number of the bytes there, or 0 and false. Condition: the text takes no more than what the model lets a text take. -/

import Derived.Test.YtilkicbokfgjlaaDoorProg

import Derived.Test.YtilkicbokfgjlaaDoorOctM

import Derived.WalkKit

import Derived.Lib.Hide

namespace Go.Proofs.YtilkicbokfgjlaaDoor.Oct

open Go.RowKit

theorem width_any (n : Int) (w : World) :
    Calls Tryd.prog 32 #[.int .i64 n] w fun e w' => e = .returned (.int .i64 (wd n)) ∧ w = w' := by
  rcases size_cases n with rfl | rfl | rfl | rfl | ⟨h1, h2, h4, h8⟩
  iterate 4
    · go_enter Tryd.func32, Tryd.ntmps32
      go_wp2
      go_ret
      exact ⟨rfl, rfl⟩
  · have e := wd_none ⟨h1, h2, h4, h8⟩
    have b1 : (n == 1) = false := by simpa using h1
    have b2 : (n == 2) = false := by simpa using h2
    have b4 : (n == 4) = false := by simpa using h4
    have b8 : (n == 8) = false := by simpa using h8
    rw [e]
    clear e
    go_enter Tryd.func32, Tryd.ntmps32
    go_wp2
    go_ret
    exact ⟨rfl, rfl⟩

theorem size_any (n : Int) (w : World) :
    Calls Tryd.prog 39 #[.int .i64 n] w fun e w' => e = .returned (.bool (sizeB n)) ∧ w = w' := by
  rcases size_cases n with rfl | rfl | rfl | rfl | ⟨h1, h2, h4, h8⟩
  iterate 4
    · go_enter Tryd.func39, Tryd.ntmps39
      go_wp2
      go_ret
      exact ⟨rfl, rfl⟩
  · have e := sizeB_none ⟨h1, h2, h4, h8⟩
    have b1 : (n == 1) = false := by simpa using h1
    have b2 : (n == 2) = false := by simpa using h2
    have b4 : (n == 4) = false := by simpa using h4
    have b8 : (n == 8) = false := by simpa using h8
    rw [e]
    clear e
    go_enter Tryd.func39, Tryd.ntmps39
    go_wp2
    go_ret
    exact ⟨rfl, rfl⟩

theorem width_at {n m : Int} (h : wd n = m) (w : World) :
    Calls Tryd.prog 32 #[.int .i64 n] w fun e w' => e = .returned (.int .i64 m) ∧ w = w' := by
  subst h; exact width_any n w
theorem size_at {n : Int} {b : Bool} (h : sizeB n = b) (w : World) :
    Calls Tryd.prog 39 #[.int .i64 n] w fun e w' => e = .returned (.bool b) ∧ w = w' := by
  subst h; exact size_any n w

/-- Whether a number fits, asked of the program. -/
theorem fits_any (v : Nat) (n : Int) (hv : v ≤ 18446744073709551615) (w : World) :
    Calls Tryd.prog 31 #[.int .u64 v, .int .i64 n] w fun e w' => e = .returned (.bool (fitB v n)) ∧ w = w' := by
  rcases size_cases n with rfl | rfl | rfl | rfl | h
  · go_enter Tryd.func31, Tryd.ntmps31
    go_wp2_with (go_at_call 32; refine (width_at (m := 8) rfl _).mono ?_; rintro e w' ⟨rfl, rfl⟩)
    go_ret
    exact ⟨ret_bool (fit_1 v), rfl⟩
  · go_enter Tryd.func31, Tryd.ntmps31
    go_wp2_with (go_at_call 32; refine (width_at (m := 16) rfl _).mono ?_; rintro e w' ⟨rfl, rfl⟩)
    go_ret
    exact ⟨ret_bool (fit_2 v), rfl⟩
  · go_enter Tryd.func31, Tryd.ntmps31
    go_wp2_with (go_at_call 32; refine (width_at (m := 32) rfl _).mono ?_; rintro e w' ⟨rfl, rfl⟩)
    go_ret
    exact ⟨ret_bool (fit_4 v), rfl⟩
  · have hz : ((v : Int) / 18446744073709551616 == 0) = true := by simp; omega
    go_enter Tryd.func31, Tryd.ntmps31
    go_wp2_with (go_at_call 32; refine (width_at (m := 64) rfl _).mono ?_; rintro e w' ⟨rfl, rfl⟩)
    go_ret
    exact ⟨ret_bool (fitB_8 v).symm, rfl⟩
  · have hw := wd_none h
    have hf := fitB_none v h
    rw [hf]
    go_enter Tryd.func31, Tryd.ntmps31
    go_wp2_with (go_at_call 32; refine (width_at hw _).mono ?_; rintro e w' ⟨rfl, rfl⟩)
    go_ret
    exact ⟨rfl, rfl⟩
end Go.Proofs.YtilkicbokfgjlaaDoor.Oct

namespace Go.Proofs.YtilkicbokfgjlaaDoor.Oct

open Go.RowKit

/-- Bit k of v. -/
def bitB (v k : Nat) : Bool := v / 2 ^ k % 2 == 1
theorem bit_run (v k : Nat) (hv : v ≤ 18446744073709551615) : bits .and .u64 ((v : Int) / 2 ^ k) 1 = ((v / 2 ^ k % 2 : Nat) : Int) := by
  have h := and_one_run (v / 2 ^ k) (by have := Nat.div_le_self v (2 ^ k); omega)
  rw [Int.natCast_ediv] at h
  simpa using h
theorem bit_end (v k : Nat) : (((v / 2 ^ k % 2 : Nat) : Int) == 1) = bitB v k := by
  unfold bitB; generalize v / 2 ^ k % 2 = x; rw [Bool.eq_iff_iff]; simp; omega
theorem div_step (v j : Nat) : v / 2 ^ (j + 1) = v / 2 ^ j / 2 := by rw [Nat.pow_succ, Nat.div_div_eq_div_mul]

end Go.Proofs.YtilkicbokfgjlaaDoor.Oct

namespace Go.Proofs.YtilkicbokfgjlaaDoor.Oct

open Go.RowKit Go.PlainAid

/-- Are n bytes there from place p on? -/
def getB (s : ByteArray) (p n : Int) : Bool := sizeB n && decide (0 ≤ p) && decide (p + n ≤ s.size)
/-- The number that is got. -/
def getV (s : ByteArray) (p n : Int) : Nat := if getB s p n then getN s p.toNat n.toNat else 0
theorem getV_lt (s : ByteArray) (p n : Int) : getV s p n ≤ 18446744073709551615 := by
  unfold getV
  split
  · rename_i h
    unfold getB at h
    simp at h
    obtain ⟨k, rfl, h1, h2, h3⟩ := size_nat h.1.1
    have := getN_lt8 s p.toNat (k : Int).toNat (by omega)
    omega
  · omega

set_option maxHeartbeats 400000 in
theorem get_yes (s : ByteArray) (p n : Nat) (hn1 : 1 ≤ n) (hn8 : n ≤ 8) (hw : wd (n : Int) = 8 * (n : Int)) (hp : p + n ≤ s.size) (hs : s.size ≤ maxLen) (w : World) :
    Calls Tryd.prog 37 #[.string s, .int .i64 p, .int .i64 n] w fun e w' => e = .returned (.tuple #[.int .u64 (getN s p n), .bool true]) ∧ w = w' := by
  unfold maxLen at hs
  have hb := get_bt s
  have t1 : ((8 * (n : Int)) == 0) = false := by simp; omega
  have t2 : decide ((p : Int) < 0) = false := decide_eq_false (by omega)
  have t3 : decide ((s.size : Int) - (n : Int) < (p : Int)) = false := decide_eq_false (by omega)
  go_enter Tryd.func37, Tryd.ntmps37
  go_wp2_with (go_at_call 32; refine (width_at hw _).mono ?_; rintro e w' ⟨rfl, rfl⟩)
  go_loop [8, 26] (fun v i => ∃ k : Nat, k ≤ n ∧ i = .int .i64 k ∧ v = .int .u64 (getN s p k)) (fun _ i => n - (intOf i).toNat)
  case atStart => exact ⟨0, Nat.zero_le _, rfl, rfl⟩
  case round =>
    obtain ⟨k, hk, rfl, rfl⟩ := hrel
    by_cases hlt : k < n
    · have hj := join_run (getN s p k) (bt s (p + k)).toNat (getN_lt7 s p k (by omega)) (by have := bt_toNat_le s (p + k); omega)
      have hg0 := getN_lt7 s p k (by omega)
      have hbn := bt_nonneg s (p + k)
      have hbl := bt_le s (p + k)
      have eb : ((bt s (p + k)).toNat : Int) = bt s (p + k) := by omega
      rw [eb] at hj
      have hpk : p + k < s.size := by omega
      go_wp2
      go_round
      case rel => exact ⟨k + 1, by omega, by go_num, by rw [getN]; go_num⟩
      case measure => simp [intOf]; omega
    · obtain rfl : k = n := by omega
      go_wp2
      go_ret2
      exact ⟨rfl, rfl⟩

/-- Where there is no such size, or the bytes aren't all there. -/
theorem get_no (s : ByteArray) (p n : Int) (hp : -9223372036854775808 ≤ p ∧ p ≤ 9223372036854775807) (h : getB s p n = false) (hs : s.size ≤ maxLen) (w : World) :
    Calls Tryd.prog 37 #[.string s, .int .i64 p, .int .i64 n] w fun e w' => e = .returned (.tuple #[.int .u64 0, .bool false]) ∧ w = w' := by
  unfold maxLen at hs
  unfold getB at h
  cases hz : sizeB n with
  | false =>
    have hw := size_no hz
    clear h
    go_enter Tryd.func37, Tryd.ntmps37
    go_wp2_with (go_at_call 32; refine (width_at hw _).mono ?_; rintro e w' ⟨rfl, rfl⟩)
    go_ret2
    exact ⟨rfl, rfl⟩
  | true =>
    obtain ⟨k, rfl, h1, h8, hw⟩ := size_nat hz
    rw [hz] at h
    clear hz
    have t1 : ((8 * (k : Int)) == 0) = false := by simp; omega
    by_cases h0 : p < 0
    · clear h
      go_enter Tryd.func37, Tryd.ntmps37
      go_wp2_with (go_at_call 32; refine (width_at hw _).mono ?_; rintro e w' ⟨rfl, rfl⟩)
      go_ret2
      exact ⟨rfl, rfl⟩
    · have t3 : decide ((s.size : Int) - (k : Int) < p) = true := by simp at h; exact decide_eq_true (by omega)
      have t2 : decide (p < 0) = false := decide_eq_false h0
      have t0 : ¬ p < 0 := h0
      clear h h0
      go_enter Tryd.func37, Tryd.ntmps37
      go_wp2_with (go_at_call 32; refine (width_at hw _).mono ?_; rintro e w' ⟨rfl, rfl⟩)
      go_ret2
      exact ⟨rfl, rfl⟩

theorem get_any (s : ByteArray) (p n : Int) (hp : -9223372036854775808 ≤ p ∧ p ≤ 9223372036854775807) (hs : s.size ≤ maxLen) (w : World) :
    Calls Tryd.prog 37 #[.string s, .int .i64 p, .int .i64 n] w fun e w' => e = .returned (.tuple #[.int .u64 (getV s p n), .bool (getB s p n)]) ∧ w = w' := by
  cases h : getB s p n with
  | false =>
    have e : getV s p n = 0 := by unfold getV; rw [h]; rfl
    rw [e]
    exact get_no s p n hp h hs w
  | true =>
    have e : getV s p n = getN s p.toNat n.toNat := by unfold getV; rw [h]; rfl
    rw [e]
    unfold getB at h
    simp at h
    obtain ⟨k, rfl, h1, h8, hw⟩ := size_nat h.1.1
    obtain ⟨q, rfl⟩ : ∃ q : Nat, p = q := ⟨p.toNat, by omega⟩
    exact get_yes s q k h1 h8 hw (by omega) hs w

set_option maxHeartbeats 400000 in
theorem rget_yes (s : ByteArray) (p n : Nat) (hn1 : 1 ≤ n) (hn8 : n ≤ 8) (hz : sizeB (n : Int) = true) (hp : p + n ≤ s.size) (hs : s.size ≤ maxLen) (w : World) :
    Calls Tryd.prog 29 #[.string s, .int .i64 p, .int .i64 n] w fun e w' => e = .returned (.tuple #[.int .u64 (getN s p n), .bool true]) ∧ w = w' := by
  unfold maxLen at hs
  have hb := get_bt s
  have t2 : decide ((p : Int) < 0) = false := decide_eq_false (by omega)
  have t3 : decide ((s.size : Int) < (p : Int)) = false := decide_eq_false (by omega)
  have t4 : decide ((s.size : Int) - (p : Int) < (n : Int)) = false := decide_eq_false (by omega)
  go_enter Tryd.func29, Tryd.ntmps29
  go_wp2_with (go_at_call 39; refine (size_at hz _).mono ?_; rintro e w' ⟨rfl, rfl⟩)
  go_loop [8, 9] (fun v i => ∃ k : Nat, k ≤ n ∧ i = .int .i64 (p + k) ∧ v = .int .u64 (getN s p k)) (fun _ i => p + n - (intOf i).toNat)
  case atStart => exact ⟨0, Nat.zero_le _, by go_num, rfl⟩
  case round =>
    obtain ⟨k, hk, rfl, rfl⟩ := hrel
    by_cases hlt : k < n
    · have hg0 := getN_lt7 s p k (by omega)
      have hbn := bt_nonneg s (p + k)
      have hbl := bt_le s (p + k)
      have hpk : p + k < s.size := by omega
      go_wp2
      go_round
      case rel => exact ⟨k + 1, by omega, by go_num, by rw [getN]; go_num⟩
      case measure => simp [intOf]; omega
    · obtain rfl : k = n := by omega
      go_wp2
      go_ret2
      exact ⟨rfl, rfl⟩

theorem rget_no (s : ByteArray) (p n : Int) (hp : -9223372036854775808 ≤ p ∧ p ≤ 9223372036854775807) (h : getB s p n = false) (hs : s.size ≤ maxLen) (w : World) :
    Calls Tryd.prog 29 #[.string s, .int .i64 p, .int .i64 n] w fun e w' => e = .returned (.tuple #[.int .u64 0, .bool false]) ∧ w = w' := by
  unfold maxLen at hs
  unfold getB at h
  cases hz : sizeB n with
  | false =>
    clear h
    go_enter Tryd.func29, Tryd.ntmps29
    go_wp2_with (go_at_call 39; refine (size_at hz _).mono ?_; rintro e w' ⟨rfl, rfl⟩)
    go_ret2
    exact ⟨rfl, rfl⟩
  | true =>
    obtain ⟨k, rfl, h1, h8, hw⟩ := size_nat hz
    rw [hz] at h
    clear hw
    by_cases h0 : p < 0
    · clear h
      go_enter Tryd.func29, Tryd.ntmps29
      go_wp2_with (go_at_call 39; refine (size_at hz _).mono ?_; rintro e w' ⟨rfl, rfl⟩)
      go_ret2
      exact ⟨rfl, rfl⟩
    · have t2 : decide (p < 0) = false := decide_eq_false h0
      by_cases h3 : (s.size : Int) < p
      · have t3 : decide ((s.size : Int) < p) = true := decide_eq_true h3
        clear h
        go_enter Tryd.func29, Tryd.ntmps29
        go_wp2_with (go_at_call 39; refine (size_at hz _).mono ?_; rintro e w' ⟨rfl, rfl⟩)
        go_ret2
        exact ⟨rfl, rfl⟩
      · have t3 : decide ((s.size : Int) < p) = false := decide_eq_false h3
        have t4 : decide ((s.size : Int) - p < (k : Int)) = true := by simp at h; exact decide_eq_true (by omega)
        clear h
        go_enter Tryd.func29, Tryd.ntmps29
        go_wp2_with (go_at_call 39; refine (size_at hz _).mono ?_; rintro e w' ⟨rfl, rfl⟩)
        go_ret2
        exact ⟨rfl, rfl⟩

theorem rget_any (s : ByteArray) (p n : Int) (hp : -9223372036854775808 ≤ p ∧ p ≤ 9223372036854775807) (hs : s.size ≤ maxLen) (w : World) :
    Calls Tryd.prog 29 #[.string s, .int .i64 p, .int .i64 n] w fun e w' => e = .returned (.tuple #[.int .u64 (getV s p n), .bool (getB s p n)]) ∧ w = w' := by
  cases h : getB s p n with
  | false =>
    have e : getV s p n = 0 := by unfold getV; rw [h]; rfl
    rw [e]
    exact rget_no s p n hp h hs w
  | true =>
    have e : getV s p n = getN s p.toNat n.toNat := by unfold getV; rw [h]; rfl
    rw [e]
    unfold getB at h
    simp at h
    obtain ⟨k, rfl, h1, h8, hw⟩ := size_nat h.1.1
    obtain ⟨q, rfl⟩ : ∃ q : Nat, p = q := ⟨p.toNat, by omega⟩
    exact rget_yes s q k h1 h8 h.1.1 (by omega) hs w
end Go.Proofs.YtilkicbokfgjlaaDoor.Oct
