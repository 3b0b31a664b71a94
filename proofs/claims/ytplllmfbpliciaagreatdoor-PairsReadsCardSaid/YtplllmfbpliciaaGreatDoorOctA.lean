
/- What the calls of package octet that only reckon (width, Fits, Bit, Count, Signed), and the document's answers for them (Size, power, Fits, Bit, Count, Signed), return, for every argument. No condition but that the arguments fit their kinds. -/

import Derived.Test.YtplllmfbpliciaaGreatDoorProg

import Derived.Test.YtplllmfbpliciaaGreatDoorOctM

import Derived.WalkKit

import Derived.Lib.Hide

namespace Go.Proofs.YtplllmfbpliciaaGreatDoor.Oct

open Go.RowKit

theorem width_any (n : Int) (w : World) :
    Calls Tryz.prog 37 #[.int .i64 n] w fun e w' => e = .returned (.int .i64 (wd n)) ∧ w = w' := by
  rcases size_cases n with rfl | rfl | rfl | rfl | ⟨h1, h2, h4, h8⟩
  iterate 4
    · go_enter Tryz.func37, Tryz.ntmps37
      go_wp2
      go_ret
      exact ⟨rfl, rfl⟩
  · have e := wd_none ⟨h1, h2, h4, h8⟩
    have b1 : (n == 1) = false := by simpa using h1
    have b2 : (n == 2) = false := by simpa using h2
    have b4 : (n == 4) = false := by simpa using h4
    have b8 : (n == 8) = false := by simpa using h8
    rw [e]
    clear e
    go_enter Tryz.func37, Tryz.ntmps37
    go_wp2
    go_ret
    exact ⟨rfl, rfl⟩

theorem size_any (n : Int) (w : World) :
    Calls Tryz.prog 55 #[.int .i64 n] w fun e w' => e = .returned (.bool (sizeB n)) ∧ w = w' := by
  rcases size_cases n with rfl | rfl | rfl | rfl | ⟨h1, h2, h4, h8⟩
  iterate 4
    · go_enter Tryz.func55, Tryz.ntmps55
      go_wp2
      go_ret
      exact ⟨rfl, rfl⟩
  · have e := sizeB_none ⟨h1, h2, h4, h8⟩
    have b1 : (n == 1) = false := by simpa using h1
    have b2 : (n == 2) = false := by simpa using h2
    have b4 : (n == 4) = false := by simpa using h4
    have b8 : (n == 8) = false := by simpa using h8
    rw [e]
    clear e
    go_enter Tryz.func55, Tryz.ntmps55
    go_wp2
    go_ret
    exact ⟨rfl, rfl⟩

theorem width_at {n m : Int} (h : wd n = m) (w : World) :
    Calls Tryz.prog 37 #[.int .i64 n] w fun e w' => e = .returned (.int .i64 m) ∧ w = w' := by
  subst h; exact width_any n w
theorem size_at {n : Int} {b : Bool} (h : sizeB n = b) (w : World) :
    Calls Tryz.prog 55 #[.int .i64 n] w fun e w' => e = .returned (.bool b) ∧ w = w' := by
  subst h; exact size_any n w

/-- Whether a number fits, asked of the program. -/
theorem fits_any (v : Nat) (n : Int) (hv : v ≤ 18446744073709551615) (w : World) :
    Calls Tryz.prog 36 #[.int .u64 v, .int .i64 n] w fun e w' => e = .returned (.bool (fitB v n)) ∧ w = w' := by
  rcases size_cases n with rfl | rfl | rfl | rfl | h
  · go_enter Tryz.func36, Tryz.ntmps36
    go_wp2_with (go_at_call 37; refine (width_at (m := 8) rfl _).mono ?_; rintro e w' ⟨rfl, rfl⟩)
    go_ret
    exact ⟨ret_bool (fit_1 v), rfl⟩
  · go_enter Tryz.func36, Tryz.ntmps36
    go_wp2_with (go_at_call 37; refine (width_at (m := 16) rfl _).mono ?_; rintro e w' ⟨rfl, rfl⟩)
    go_ret
    exact ⟨ret_bool (fit_2 v), rfl⟩
  · go_enter Tryz.func36, Tryz.ntmps36
    go_wp2_with (go_at_call 37; refine (width_at (m := 32) rfl _).mono ?_; rintro e w' ⟨rfl, rfl⟩)
    go_ret
    exact ⟨ret_bool (fit_4 v), rfl⟩
  · have hz : ((v : Int) / 18446744073709551616 == 0) = true := by simp; omega
    go_enter Tryz.func36, Tryz.ntmps36
    go_wp2_with (go_at_call 37; refine (width_at (m := 64) rfl _).mono ?_; rintro e w' ⟨rfl, rfl⟩)
    go_ret
    exact ⟨ret_bool (fitB_8 v).symm, rfl⟩
  · have hw := wd_none h
    have hf := fitB_none v h
    rw [hf]
    go_enter Tryz.func36, Tryz.ntmps36
    go_wp2_with (go_at_call 37; refine (width_at hw _).mono ?_; rintro e w' ⟨rfl, rfl⟩)
    go_ret
    exact ⟨rfl, rfl⟩
end Go.Proofs.YtplllmfbpliciaaGreatDoor.Oct
