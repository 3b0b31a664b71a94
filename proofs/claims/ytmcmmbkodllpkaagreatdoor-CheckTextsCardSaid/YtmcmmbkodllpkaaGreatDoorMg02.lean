/- What the calls of package octet that only reckon (width, Fits, Bit, Count, Signed), and the document's answers for them (Size, power, Fits, Bit, Count, Signed), return, for every argument. No condition but that the arguments fit their kinds. What package octet's Bit and Signed return, and the document's Bit, Fits and Signed, for every argument. No condition but that the arguments fit their kinds. What package octet's Get, and the document's, return: the number of the bytes there, or 0 and false. Condition: the text takes no more than what the model lets a text take. What package name's Right tells of a text, and the document's: both by one reckoning. Condition: the text takes no more than what the model lets a text take. What the document's Right tells of a text: the same reckoning as the program's; and the chapter's examples of package name. Condition: the text takes no more than what the model lets a text take. -/
import Derived.Test.YtmcmmbkodllpkaaGreatDoorProg
import Derived.Test.YtmcmmbkodllpkaaGreatDoorMg01
import Derived.WalkKit
import Derived.Lib.Hide
namespace Go.Proofs.YtmcmmbkodllpkaaGreatDoor.Oct

open Go.RowKit

theorem width_any (n : Int) (w : World) :
    Calls Tryz.prog 89 #[.int .i64 n] w fun e w' => e = .returned (.int .i64 (wd n)) ∧ w = w' := by
  rcases size_cases n with rfl | rfl | rfl | rfl | ⟨h1, h2, h4, h8⟩
  iterate 4
    · go_enter Tryz.func89, Tryz.ntmps89
      go_wp2
      go_ret
      exact ⟨rfl, rfl⟩
  · have e := wd_none ⟨h1, h2, h4, h8⟩
    have b1 : (n == 1) = false := by simpa using h1
    have b2 : (n == 2) = false := by simpa using h2
    have b4 : (n == 4) = false := by simpa using h4
    have b8 : (n == 8) = false := by simpa using h8
    rw [e]
    clear e
    go_enter Tryz.func89, Tryz.ntmps89
    go_wp2
    go_ret
    exact ⟨rfl, rfl⟩

theorem width_at {n m : Int} (h : wd n = m) (w : World) :
    Calls Tryz.prog 89 #[.int .i64 n] w fun e w' => e = .returned (.int .i64 m) ∧ w = w' := by
  subst h; exact width_any n w
/-- Whether a number fits, asked of the program. -/
theorem fits_any (v : Nat) (n : Int) (hv : v ≤ 18446744073709551615) (w : World) :
    Calls Tryz.prog 73 #[.int .u64 v, .int .i64 n] w fun e w' => e = .returned (.bool (fitB v n)) ∧ w = w' := by
  rcases size_cases n with rfl | rfl | rfl | rfl | h
  · go_enter Tryz.func73, Tryz.ntmps73
    go_wp2_with (go_at_call 89; refine (width_at (m := 8) rfl _).mono ?_; rintro e w' ⟨rfl, rfl⟩)
    go_ret
    exact ⟨ret_bool (fit_1 v), rfl⟩
  · go_enter Tryz.func73, Tryz.ntmps73
    go_wp2_with (go_at_call 89; refine (width_at (m := 16) rfl _).mono ?_; rintro e w' ⟨rfl, rfl⟩)
    go_ret
    exact ⟨ret_bool (fit_2 v), rfl⟩
  · go_enter Tryz.func73, Tryz.ntmps73
    go_wp2_with (go_at_call 89; refine (width_at (m := 32) rfl _).mono ?_; rintro e w' ⟨rfl, rfl⟩)
    go_ret
    exact ⟨ret_bool (fit_4 v), rfl⟩
  · have hz : ((v : Int) / 18446744073709551616 == 0) = true := by simp; omega
    go_enter Tryz.func73, Tryz.ntmps73
    go_wp2_with (go_at_call 89; refine (width_at (m := 64) rfl _).mono ?_; rintro e w' ⟨rfl, rfl⟩)
    go_ret
    exact ⟨ret_bool (fitB_8 v).symm, rfl⟩
  · have hw := wd_none h
    have hf := fitB_none v h
    rw [hf]
    go_enter Tryz.func73, Tryz.ntmps73
    go_wp2_with (go_at_call 89; refine (width_at hw _).mono ?_; rintro e w' ⟨rfl, rfl⟩)
    go_ret
    exact ⟨rfl, rfl⟩
end Go.Proofs.YtmcmmbkodllpkaaGreatDoor.Oct

namespace Go.Proofs.YtmcmmbkodllpkaaGreatDoor.Oct

open Go.RowKit

/-- Bit k of v. -/
def bitB (v k : Nat) : Bool := v / 2 ^ k % 2 == 1
theorem bit_run (v k : Nat) (hv : v ≤ 18446744073709551615) : bits .and .u64 ((v : Int) / 2 ^ k) 1 = ((v / 2 ^ k % 2 : Nat) : Int) := by
  have h := and_one_run (v / 2 ^ k) (by have := Nat.div_le_self v (2 ^ k); omega)
  rw [Int.natCast_ediv] at h
  simpa using h
theorem bit_end (v k : Nat) : (((v / 2 ^ k % 2 : Nat) : Int) == 1) = bitB v k := by
  unfold bitB; generalize v / 2 ^ k % 2 = x; rw [Bool.eq_iff_iff]; simp; omega
theorem div_step (v j : Nat) : v / 2 ^ (j + 1) = v / 2 ^ j / 2 := by rw [Nat.pow_succ, Nat.div_div_eq_div_mul]

end Go.Proofs.YtmcmmbkodllpkaaGreatDoor.Oct

namespace Go.Proofs.YtmcmmbkodllpkaaGreatDoor.Oct

open Go.RowKit Go.PlainAid

/-- Are n bytes there from place p on? -/
def getB (s : ByteArray) (p n : Int) : Bool := sizeB n && decide (0 ≤ p) && decide (p + n ≤ s.size)
/-- The number that is got. -/
def getV (s : ByteArray) (p n : Int) : Nat := if getB s p n then getN s p.toNat n.toNat else 0
theorem getV_lt (s : ByteArray) (p n : Int) : getV s p n ≤ 18446744073709551615 := by
  unfold getV
  split
  · rename_i h
    unfold getB at h
    simp at h
    obtain ⟨k, rfl, h1, h2, h3⟩ := size_nat h.1.1
    have := getN_lt8 s p.toNat (k : Int).toNat (by omega)
    omega
  · omega

end Go.Proofs.YtmcmmbkodllpkaaGreatDoor.Oct
namespace Go.Proofs.YtmcmmbkodllpkaaGreatDoor.Nam

open Go.RowKit Go.PlainAid Go.Proofs.YtmcmmbkodllpkaaGreatDoor.Oct

set_option linter.unusedVariables false

def letB (c : Int) : Bool := decide (65 ≤ c) && decide (c ≤ 90)
def digB (c : Int) : Bool := decide (48 ≤ c) && decide (c ≤ 57)
/-- May the byte stand in a name, as the first one or behind it? -/
def stdB (c : Int) (first : Bool) : Bool := letB c || (!first && (digB c || (c == 95)))
/-- Do all bytes of s below k stand in a name? -/
def allB (s : ByteArray) (k : Nat) : Bool := (List.range k).all fun i => stdB (bt s i) (i == 0)
def rightB (s : ByteArray) : Bool := decide (1 ≤ s.size) && decide (s.size ≤ 16) && allB s s.size
theorem all_succ (s : ByteArray) (k : Nat) : allB s (k + 1) = (allB s k && stdB (bt s k) (k == 0)) := by
  unfold allB; rw [List.range_succ, List.all_append]; simp
theorem all_false {s : ByteArray} {k m : Nat} (h : allB s k = false) (hm : k ≤ m) : allB s m = false := by
  induction m with
  | zero => obtain rfl : k = 0 := by omega
            exact h
  | succ m ih =>
    by_cases e : k = m + 1
    · rw [← e]; exact h
    · rw [all_succ, ih (by omega)]; rfl

theorem sized_any (n : Int) (w : World) : Calls Tryz.prog 90 #[.int .i64 n] w fun e w' => e = .returned (.bool (decide (1 ≤ n) && decide (n ≤ 16))) ∧ w = w' := by
  by_cases h : 1 ≤ n
  · have t : decide (1 ≤ n) = true := decide_eq_true h
    rw [t]
    clear h
    go_enter Tryz.func90, Tryz.ntmps90
    go_wp2
    go_ret
    exact ⟨rfl, rfl⟩
  · have t : decide (1 ≤ n) = false := decide_eq_false h
    rw [t]
    clear h
    go_enter Tryz.func90, Tryz.ntmps90
    go_wp2
    go_ret
    exact ⟨rfl, rfl⟩
theorem letter_any (c : Int) (w : World) : Calls Tryz.prog 83 #[.int .u8 c] w fun e w' => e = .returned (.bool (letB c)) ∧ w = w' := by
  unfold letB
  by_cases h : 65 ≤ c
  · have t : decide (65 ≤ c) = true := decide_eq_true h
    rw [t]
    clear h
    go_enter Tryz.func83, Tryz.ntmps83
    go_wp2
    go_ret
    exact ⟨rfl, rfl⟩
  · have t : decide (65 ≤ c) = false := decide_eq_false h
    rw [t]
    clear h
    go_enter Tryz.func83, Tryz.ntmps83
    go_wp2
    go_ret
    exact ⟨rfl, rfl⟩
theorem stands_any (c : Int) (f : Bool) (w : World) : Calls Tryz.prog 91 #[.int .u8 c, .bool f] w fun e w' => e = .returned (.bool (stdB c f)) ∧ w = w' := by
  by_cases h1 : 48 ≤ c ∧ c ≤ 57
  · cases f with
    | true =>
      have t0 : (decide (48 ≤ c)) = true := by simp <;> omega
      have t1 : (decide (c ≤ 57)) = true := by simp <;> omega
      have e : stdB c true = false := by unfold stdB letB digB; simp <;> omega
      rw [e]
      clear e h1
      go_enter Tryz.func91, Tryz.ntmps91
      go_wp2
      go_ret
      exact ⟨rfl, rfl⟩
    | false =>
      have t0 : (decide (48 ≤ c)) = true := by simp <;> omega
      have t1 : (decide (c ≤ 57)) = true := by simp <;> omega
      have t2 : (c == 95) = false := by simp <;> omega
      have t3 : (decide (65 ≤ c)) = false := by simp <;> omega
      have e : stdB c false = true := by unfold stdB letB digB; simp <;> omega
      rw [e]
      clear e h1
      go_enter Tryz.func91, Tryz.ntmps91
      go_wp2
      go_ret
      exact ⟨rfl, rfl⟩
  · by_cases h2 : c = 95
    · subst h2
      cases f with
      | true =>
        have e : stdB 95 true = false := rfl
        rw [e]
        clear e h1
        go_enter Tryz.func91, Tryz.ntmps91
        go_wp2
        go_ret
        exact ⟨rfl, rfl⟩
      | false =>
        have e : stdB 95 false = true := rfl
        rw [e]
        clear e h1
        go_enter Tryz.func91, Tryz.ntmps91
        go_wp2
        go_ret
        exact ⟨rfl, rfl⟩
    · by_cases h3 : 65 ≤ c ∧ c ≤ 90
      · have e : stdB c f = true := by unfold stdB letB; simp [h3]
        rw [e]
        have t0 : (decide (48 ≤ c)) = true := by simp <;> omega
        have t1 : (decide (c ≤ 57)) = false := by simp <;> omega
        have t2 : (c == 95) = false := by simp <;> omega
        have t3 : (decide (65 ≤ c)) = true := by simp <;> omega
        have t4 : (decide (c ≤ 90)) = true := by simp <;> omega
        clear e h1 h2 h3
        go_enter Tryz.func91, Tryz.ntmps91
        go_wp2
        go_ret
        exact ⟨rfl, rfl⟩
      · have e : stdB c f = false := by unfold stdB letB digB; cases f <;> simp <;> omega
        rw [e]
        have t2 : (c == 95) = false := by simp <;> omega
        by_cases h4 : 48 ≤ c
        · have t0 : decide (48 ≤ c) = true := decide_eq_true h4
          have t1 : decide (c ≤ 57) = false := decide_eq_false (by omega)
          by_cases h5 : 65 ≤ c
          · have t3 : decide (65 ≤ c) = true := decide_eq_true h5
            have t4 : decide (c ≤ 90) = false := decide_eq_false (by omega)
            clear e h1 h2 h3 h4 h5
            go_enter Tryz.func91, Tryz.ntmps91
            go_wp2
            go_ret
            exact ⟨rfl, rfl⟩
          · have t3 : decide (65 ≤ c) = false := decide_eq_false h5
            clear e h1 h2 h3 h4 h5
            go_enter Tryz.func91, Tryz.ntmps91
            go_wp2
            go_ret
            exact ⟨rfl, rfl⟩
        · have t0 : decide (48 ≤ c) = false := decide_eq_false h4
          have t3 : decide (65 ≤ c) = false := decide_eq_false (by omega)
          clear e h1 h2 h3 h4
          go_enter Tryz.func91, Tryz.ntmps91
          go_wp2
          go_ret
          exact ⟨rfl, rfl⟩
theorem right_out {s : ByteArray} (h : ¬ (1 ≤ s.size ∧ s.size ≤ 16)) : rightB s = false := by
  unfold rightB; simp; omega
theorem right_in {s : ByteArray} (h : 1 ≤ s.size ∧ s.size ≤ 16) : rightB s = allB s s.size := by
  unfold rightB; simp [h.1, h.2]
theorem std_int (c : Int) (k : Nat) : stdB c ((k : Int) == 0) = stdB c (k == 0) := by
  have e : ((k : Int) == 0) = (k == 0) := by rw [Bool.eq_iff_iff]; simp
  rw [e]
set_option maxHeartbeats 400000 in
theorem right_any (s : ByteArray) (w : World) (hs : s.size ≤ maxLen) : Calls Tryz.prog 74 #[.string s] w fun e w' => e = .returned (.bool (rightB s)) ∧ w = w' := by
  unfold maxLen at hs
  by_cases h : 1 ≤ s.size ∧ s.size ≤ 16
  · rw [right_in h]
    have HS : Hid (∀ w, Calls Tryz.prog 90 #[.int .i64 s.size] w fun e w' => e = .returned (.bool true) ∧ w = w') := fun w => by
      have := sized_any s.size w
      rwa [show (decide (1 ≤ (s.size : Int)) && decide ((s.size : Int) ≤ 16)) = true by simp; omega] at this
    have hb := get_bt s
    obtain ⟨R, hR⟩ : ∃ R, allB s s.size = R := ⟨_, rfl⟩
    rw [hR]
    have HR := Lib.hid hR
    have hs16 : (s.size : Int) ≤ 16 := by omega
    clear h hR hs
    go_enter Tryz.func74, Tryz.ntmps74
    go_wp2_with (go_at_call 90; refine (HS.out _).mono ?_; rintro e w' ⟨rfl, rfl⟩)
    go_loop [10] (fun i => ∃ k : Nat, k ≤ s.size ∧ i = .int .i64 k ∧ allB s k = true) (fun i => s.size - (intOf i).toNat)
    case atStart => exact ⟨0, Nat.zero_le _, rfl, rfl⟩
    case round =>
      obtain ⟨k, hk, rfl, hall⟩ := hrel
      have HA := Lib.hid hall
      clear hall
      by_cases hlt : k < s.size
      · have HT : Hid (∀ w, Calls Tryz.prog 91 #[.int .u8 (bt s k), .bool ((k : Int) == 0)] w fun e w' => e = .returned (.bool (stdB (bt s k) (k == 0))) ∧ w = w') := fun w => by
          have := stands_any (bt s k) ((k : Int) == 0) w
          rwa [std_int] at this
        have HK := Lib.hid hk
        have HN : Hid (allB s (k + 1) = stdB (bt s k) (k == 0)) := by show _ = _; rw [all_succ, HA.out]; rfl
        obtain ⟨x, hx⟩ : ∃ x, stdB (bt s k) (k == 0) = x := ⟨_, rfl⟩
        rw [hx] at HT HN
        clear hx hk
        cases x with
        | true =>
          go_wp2_with (go_at_call 91; refine (HT.out _).mono ?_; rintro e w' ⟨rfl, rfl⟩)
          go_round
          case rel => exact ⟨k + 1, by omega, by go_num, HN.out⟩
          case measure => simp [intOf]; omega
        | false =>
          go_wp2_with (go_at_call 91; refine (HT.out _).mono ?_; rintro e w' ⟨rfl, rfl⟩)
          go_ret
          exact ⟨by rw [← HR.out, all_false HN.out (by omega)]; rfl, rfl⟩
      · obtain rfl : k = s.size := by omega
        clear hk hlt
        go_wp2
        go_ret
        exact ⟨by rw [← HR.out, HA.out]; rfl, rfl⟩
  · rw [right_out h]
    have HS : Hid (∀ w, Calls Tryz.prog 90 #[.int .i64 s.size] w fun e w' => e = .returned (.bool false) ∧ w = w') := fun w => by
      have := sized_any s.size w
      rwa [show (decide (1 ≤ (s.size : Int)) && decide ((s.size : Int) ≤ 16)) = false by simp; omega] at this
    clear h hs
    go_enter Tryz.func74, Tryz.ntmps74
    go_wp2_with (go_at_call 90; refine (HS.out _).mono ?_; rintro e w' ⟨rfl, rfl⟩)
    go_ret
    exact ⟨rfl, rfl⟩
end Go.Proofs.YtmcmmbkodllpkaaGreatDoor.Nam
namespace Go.Proofs.YtmcmmbkodllpkaaGreatDoor.Nam

open Go.RowKit Go.PlainAid Go.Proofs.YtmcmmbkodllpkaaGreatDoor.Oct

set_option linter.unusedVariables false

theorem rright_first {s : ByteArray} (h1 : 1 ≤ s.size) (h2 : s.size ≤ 16) (h : letB (bt s 0) = false) : rightB s = false := by
  rw [right_in ⟨h1, h2⟩]
  refine all_false (k := 1) ?_ h1
  rw [all_succ]
  unfold stdB; rw [h]; rfl
theorem empty_iff {s : ByteArray} (h : s.size = 0) : s.toList.isEmpty = true := by
  have : s.data = #[] := by
    apply Array.eq_empty_of_size_eq_zero; exact h
  rw [ByteArray.toList_eq, this]; rfl
theorem nonempty_iff {s : ByteArray} (h : 1 ≤ s.size) : s.toList.isEmpty = false := by
  rw [ByteArray.toList_eq]
  cases hh : s.data.toList.isEmpty with
  | false => rfl
  | true =>
    rw [List.isEmpty_iff] at hh
    have : s.size = 0 := by show s.data.size = 0; rw [← Array.length_toList, hh]; rfl
    omega
set_option maxRecDepth 4000 in
set_option maxHeartbeats 800000 in
theorem rright_any (s : ByteArray) (w : World) (hs : s.size ≤ maxLen) : Calls Tryz.prog 64 #[.string s] w fun e w' => e = .returned (.bool (rightB s)) ∧ w = w' := by
  unfold maxLen at hs
  rcases (show s.size = 0 ∨ 16 < s.size ∨ (1 ≤ s.size ∧ s.size ≤ 16) by omega) with h | h | h
  · rw [right_out (by omega)]
    have he := empty_iff h
    clear h hs
    go_enter Tryz.func64, Tryz.ntmps64
    go_wp2
    go_ret
    exact ⟨rfl, rfl⟩
  · rw [right_out (by omega)]
    have he := nonempty_iff (s := s) (by omega)
    have t : decide (16 < (s.size : Int)) = true := decide_eq_true (by omega)
    clear h hs
    go_enter Tryz.func64, Tryz.ntmps64
    go_wp2
    go_ret
    exact ⟨rfl, rfl⟩
  · have he := nonempty_iff (s := s) h.1
    have t : decide (16 < (s.size : Int)) = false := decide_eq_false (by omega)
    have hb := get_bt s
    have h0 : 0 < s.size := h.1
    have hs16 : (s.size : Int) ≤ 16 := by omega
    have HL : Hid (∀ k w, Calls Tryz.prog 83 #[.int .u8 (bt s k)] w fun e w' => e = .returned (.bool (letB (bt s k))) ∧ w = w') := fun k w => letter_any _ w
    cases hl : letB (bt s 0) with
    | false =>
      rw [rright_first h.1 h.2 hl]
      have HF : Hid (∀ w, Calls Tryz.prog 83 #[.int .u8 (bt s 0)] w fun e w' => e = .returned (.bool false) ∧ w = w') := fun w => by rw [← hl]; exact letter_any _ w
      clear h hs hl
      go_enter Tryz.func64, Tryz.ntmps64
      go_wp2_with (go_at_call 83; refine (HF.out _).mono ?_; rintro e w' ⟨rfl, rfl⟩)
      go_ret
      exact ⟨rfl, rfl⟩
    | true =>
      rw [right_in h]
      obtain ⟨R, hR⟩ : ∃ R, allB s s.size = R := ⟨_, rfl⟩
      rw [hR]
      have HR := Lib.hid hR
      have HF : Hid (∀ w, Calls Tryz.prog 83 #[.int .u8 (bt s 0)] w fun e w' => e = .returned (.bool true) ∧ w = w') := fun w => by rw [← hl]; exact letter_any _ w
      have HLL := Lib.hid hl
      clear h hs hl hR
      go_enter Tryz.func64, Tryz.ntmps64
      go_wp2_with (go_at_call 83; refine (HF.out _).mono ?_; rintro e w' ⟨rfl, rfl⟩)
      go_loop [3] (fun i => ∃ k : Nat, k ≤ s.size ∧ i = .int .i64 k ∧ allB s k = true) (fun i => s.size - (intOf i).toNat)
      case atStart => exact ⟨0, Nat.zero_le _, rfl, rfl⟩
      case round =>
        obtain ⟨k, hk, rfl, hall⟩ := hrel
        have HA := Lib.hid hall
        clear hall
        by_cases hlt : k < s.size
        · have HK := Lib.hid hk
          have HN : Hid (allB s (k + 1) = stdB (bt s k) (k == 0)) := by show _ = _; rw [all_succ, HA.out]; rfl
          obtain ⟨c, hc⟩ : ∃ c, bt s k = c := ⟨_, rfl⟩
          have HC := Lib.hid hc
          have HB : Hid (∀ w, Calls Tryz.prog 83 #[.int .u8 (bt s k)] w fun e w' => e = .returned (.bool (letB c)) ∧ w = w') := fun w => by rw [← hc]; exact letter_any _ w
          clear hk
          cases hl : letB c with
          | true =>
            rw [hl] at HB
            have HT : Hid (allB s (k + 1) = true) := by show _ = _; rw [HN.out, HC.out]; unfold stdB; rw [hl]; rfl
            clear hl hc
            go_wp2_with (go_at_call 83; refine (HB.out _).mono ?_; rintro e w' ⟨rfl, rfl⟩)
            go_round
            case rel => exact ⟨k + 1, by omega, by go_num, HT.out⟩
            case measure => simp [intOf]; omega
          | false =>
            rw [hl] at HB
            have hk0 : (k == 0) = false := by
              rcases Nat.eq_zero_or_pos k with rfl | h
              · rw [← hc, HLL.out] at hl; cases hl
              · simp; omega
            have hst : stdB c (k == 0) = (digB c || (c == 95)) := by unfold stdB; rw [hl, hk0]; rfl
            have HNC : Hid (allB s (k + 1) = (digB c || (c == 95))) := by show _ = _; rw [HN.out, HC.out, hst]
            clear hl hk0 hst
            by_cases h95 : c = 95
            · have HT : Hid (allB s (k + 1) = true) := by show _ = _; rw [HNC.out, h95]; rfl
              have t1 : (bt s k != 95) = false := by rw [hc, h95]; rfl
              have t2 : (bt s k == 95) = true := by rw [hc, h95]; rfl
              clear hc h95
              go_wp2_with (go_at_call 83; refine (HB.out _).mono ?_; rintro e w' ⟨rfl, rfl⟩)
              go_round
              case rel => exact ⟨k + 1, by omega, by go_num, HT.out⟩
              case measure => simp [intOf]; omega
            · have t1 : (bt s k != 95) = true := by rw [hc]; simp; exact h95
              have t2 : (bt s k == 95) = false := by rw [hc]; simp; exact h95
              by_cases h48 : c < 48
              · have HT : Hid (allB s (k + 1) = false) := by show _ = _; rw [HNC.out]; unfold digB; simp; omega
                have t3 : decide (bt s k < 48) = true := by rw [hc]; exact decide_eq_true h48
                clear hc h95 h48
                go_wp2_with (go_at_call 83; refine (HB.out _).mono ?_; rintro e w' ⟨rfl, rfl⟩)
                go_ret
                exact ⟨by rw [← HR.out, all_false HT.out (by omega)]; rfl, rfl⟩
              · have t3 : decide (bt s k < 48) = false := by rw [hc]; exact decide_eq_false h48
                by_cases h57 : 57 < c
                · have HT : Hid (allB s (k + 1) = false) := by show _ = _; rw [HNC.out]; unfold digB; simp; omega
                  have t4 : decide (57 < bt s k) = true := by rw [hc]; exact decide_eq_true h57
                  clear hc h95 h48 h57
                  go_wp2_with (go_at_call 83; refine (HB.out _).mono ?_; rintro e w' ⟨rfl, rfl⟩)
                  go_ret
                  exact ⟨by rw [← HR.out, all_false HT.out (by omega)]; rfl, rfl⟩
                · have HT : Hid (allB s (k + 1) = true) := by show _ = _; rw [HNC.out]; unfold digB; simp; omega
                  have t4 : decide (57 < bt s k) = false := by rw [hc]; exact decide_eq_false h57
                  clear hc h95 h48 h57
                  go_wp2_with (go_at_call 83; refine (HB.out _).mono ?_; rintro e w' ⟨rfl, rfl⟩)
                  go_round
                  case rel => exact ⟨k + 1, by omega, by go_num, HT.out⟩
                  case measure => simp [intOf]; omega
        · obtain rfl : k = s.size := by omega
          clear hk hlt
          go_wp2
          go_ret
          exact ⟨by rw [← HR.out, HA.out]; rfl, rfl⟩
theorem aw_yes : rightB ⟨#[78, 65, 86, 95, 49]⟩ = true := by decide +kernel
theorem aw_no : rightB ⟨#[49, 78, 65, 86]⟩ = false := by decide +kernel
end Go.Proofs.YtmcmmbkodllpkaaGreatDoor.Nam
