
/- What the calls of package octet that only reckon (width, Fits, Bit, Count, Signed), and the document's answers for them (Size, power, Fits, Bit, Count, Signed), return, for every argument. No condition but that the arguments fit their kinds. What package octet's Bit and Signed return, and the document's Bit, Fits and Signed, for every argument. No condition but that the arguments fit their kinds. What package octet's Get, and the document's, return: the number of the bytes there, or 0 and false. Condition: the text takes no more than what the model lets a text take. -/

import Derived.Test.YtpjillclladjaaaDoorProg

import Derived.Test.YtpjillclladjaaaDoorOctM

import Derived.WalkKit

import Derived.Lib.Hide

namespace Go.Proofs.YtpjillclladjaaaDoor.Oct

open Go.RowKit

theorem width_any (n : Int) (w : World) :
    Calls Tryd.prog 97 #[.int .i64 n] w fun e w' => e = .returned (.int .i64 (wd n)) ∧ w = w' := by
  rcases size_cases n with rfl | rfl | rfl | rfl | ⟨h1, h2, h4, h8⟩
  iterate 4
    · go_enter Tryd.func97, Tryd.ntmps97
      go_wp2
      go_ret
      exact ⟨rfl, rfl⟩
  · have e := wd_none ⟨h1, h2, h4, h8⟩
    have b1 : (n == 1) = false := by simpa using h1
    have b2 : (n == 2) = false := by simpa using h2
    have b4 : (n == 4) = false := by simpa using h4
    have b8 : (n == 8) = false := by simpa using h8
    rw [e]
    clear e
    go_enter Tryd.func97, Tryd.ntmps97
    go_wp2
    go_ret
    exact ⟨rfl, rfl⟩

theorem width_at {n m : Int} (h : wd n = m) (w : World) :
    Calls Tryd.prog 97 #[.int .i64 n] w fun e w' => e = .returned (.int .i64 m) ∧ w = w' := by
  subst h; exact width_any n w
/-- Whether a number fits, asked of the program. -/
theorem fits_any (v : Nat) (n : Int) (hv : v ≤ 18446744073709551615) (w : World) :
    Calls Tryd.prog 80 #[.int .u64 v, .int .i64 n] w fun e w' => e = .returned (.bool (fitB v n)) ∧ w = w' := by
  rcases size_cases n with rfl | rfl | rfl | rfl | h
  · go_enter Tryd.func80, Tryd.ntmps80
    go_wp2_with (go_at_call 97; refine (width_at (m := 8) rfl _).mono ?_; rintro e w' ⟨rfl, rfl⟩)
    go_ret
    exact ⟨ret_bool (fit_1 v), rfl⟩
  · go_enter Tryd.func80, Tryd.ntmps80
    go_wp2_with (go_at_call 97; refine (width_at (m := 16) rfl _).mono ?_; rintro e w' ⟨rfl, rfl⟩)
    go_ret
    exact ⟨ret_bool (fit_2 v), rfl⟩
  · go_enter Tryd.func80, Tryd.ntmps80
    go_wp2_with (go_at_call 97; refine (width_at (m := 32) rfl _).mono ?_; rintro e w' ⟨rfl, rfl⟩)
    go_ret
    exact ⟨ret_bool (fit_4 v), rfl⟩
  · have hz : ((v : Int) / 18446744073709551616 == 0) = true := by simp; omega
    go_enter Tryd.func80, Tryd.ntmps80
    go_wp2_with (go_at_call 97; refine (width_at (m := 64) rfl _).mono ?_; rintro e w' ⟨rfl, rfl⟩)
    go_ret
    exact ⟨ret_bool (fitB_8 v).symm, rfl⟩
  · have hw := wd_none h
    have hf := fitB_none v h
    rw [hf]
    go_enter Tryd.func80, Tryd.ntmps80
    go_wp2_with (go_at_call 97; refine (width_at hw _).mono ?_; rintro e w' ⟨rfl, rfl⟩)
    go_ret
    exact ⟨rfl, rfl⟩
end Go.Proofs.YtpjillclladjaaaDoor.Oct

namespace Go.Proofs.YtpjillclladjaaaDoor.Oct

open Go.RowKit

/-- Bit k of v. -/
def bitB (v k : Nat) : Bool := v / 2 ^ k % 2 == 1
theorem bit_run (v k : Nat) (hv : v ≤ 18446744073709551615) : bits .and .u64 ((v : Int) / 2 ^ k) 1 = ((v / 2 ^ k % 2 : Nat) : Int) := by
  have h := and_one_run (v / 2 ^ k) (by have := Nat.div_le_self v (2 ^ k); omega)
  rw [Int.natCast_ediv] at h
  simpa using h
theorem bit_end (v k : Nat) : (((v / 2 ^ k % 2 : Nat) : Int) == 1) = bitB v k := by
  unfold bitB; generalize v / 2 ^ k % 2 = x; rw [Bool.eq_iff_iff]; simp; omega
theorem div_step (v j : Nat) : v / 2 ^ (j + 1) = v / 2 ^ j / 2 := by rw [Nat.pow_succ, Nat.div_div_eq_div_mul]

end Go.Proofs.YtpjillclladjaaaDoor.Oct

namespace Go.Proofs.YtpjillclladjaaaDoor.Oct

open Go.RowKit Go.PlainAid

/-- Are n bytes there from place p on? -/
def getB (s : ByteArray) (p n : Int) : Bool := sizeB n && decide (0 ≤ p) && decide (p + n ≤ s.size)
/-- The number that is got. -/
def getV (s : ByteArray) (p n : Int) : Nat := if getB s p n then getN s p.toNat n.toNat else 0
theorem getV_lt (s : ByteArray) (p n : Int) : getV s p n ≤ 18446744073709551615 := by
  unfold getV
  split
  · rename_i h
    unfold getB at h
    simp at h
    obtain ⟨k, rfl, h1, h2, h3⟩ := size_nat h.1.1
    have := getN_lt8 s p.toNat (k : Int).toNat (by omega)
    omega
  · omega

end Go.Proofs.YtpjillclladjaaaDoor.Oct
