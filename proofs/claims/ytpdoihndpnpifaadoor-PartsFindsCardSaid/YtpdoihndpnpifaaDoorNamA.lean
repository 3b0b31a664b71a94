
/- What package name's Right tells of a text, and the document's: both by one reckoning. Condition: the text takes no more than what the model lets a text take. -/

import Derived.Test.YtpdoihndpnpifaaDoorOctG

import Derived.Lib.Hide

namespace Go.Proofs.YtpdoihndpnpifaaDoor.Nam

open Go.RowKit Go.PlainAid Go.Proofs.YtpdoihndpnpifaaDoor.Oct

set_option linter.unusedVariables false

def letB (c : Int) : Bool := decide (65 ≤ c) && decide (c ≤ 90)
def digB (c : Int) : Bool := decide (48 ≤ c) && decide (c ≤ 57)
/-- May the byte stand in a name, as the first one or behind it? -/
def stdB (c : Int) (first : Bool) : Bool := letB c || (!first && (digB c || (c == 95)))
/-- Do all bytes of s below k stand in a name? -/
def allB (s : ByteArray) (k : Nat) : Bool := (List.range k).all fun i => stdB (bt s i) (i == 0)
def rightB (s : ByteArray) : Bool := decide (1 ≤ s.size) && decide (s.size ≤ 16) && allB s s.size
theorem all_succ (s : ByteArray) (k : Nat) : allB s (k + 1) = (allB s k && stdB (bt s k) (k == 0)) := by
  unfold allB; rw [List.range_succ, List.all_append]; simp
theorem all_false {s : ByteArray} {k m : Nat} (h : allB s k = false) (hm : k ≤ m) : allB s m = false := by
  induction m with
  | zero => obtain rfl : k = 0 := by omega
            exact h
  | succ m ih =>
    by_cases e : k = m + 1
    · rw [← e]; exact h
    · rw [all_succ, ih (by omega)]; rfl

theorem sized_any (n : Int) (w : World) : Calls Tryd.prog 91 #[.int .i64 n] w fun e w' => e = .returned (.bool (decide (1 ≤ n) && decide (n ≤ 16))) ∧ w = w' := by
  by_cases h : 1 ≤ n
  · have t : decide (1 ≤ n) = true := decide_eq_true h
    rw [t]
    clear h
    go_enter Tryd.func91, Tryd.ntmps91
    go_wp2
    go_ret
    exact ⟨rfl, rfl⟩
  · have t : decide (1 ≤ n) = false := decide_eq_false h
    rw [t]
    clear h
    go_enter Tryd.func91, Tryd.ntmps91
    go_wp2
    go_ret
    exact ⟨rfl, rfl⟩
theorem letter_any (c : Int) (w : World) : Calls Tryd.prog 93 #[.int .u8 c] w fun e w' => e = .returned (.bool (letB c)) ∧ w = w' := by
  unfold letB
  by_cases h : 65 ≤ c
  · have t : decide (65 ≤ c) = true := decide_eq_true h
    rw [t]
    clear h
    go_enter Tryd.func93, Tryd.ntmps93
    go_wp2
    go_ret
    exact ⟨rfl, rfl⟩
  · have t : decide (65 ≤ c) = false := decide_eq_false h
    rw [t]
    clear h
    go_enter Tryd.func93, Tryd.ntmps93
    go_wp2
    go_ret
    exact ⟨rfl, rfl⟩
theorem stands_any (c : Int) (f : Bool) (w : World) : Calls Tryd.prog 92 #[.int .u8 c, .bool f] w fun e w' => e = .returned (.bool (stdB c f)) ∧ w = w' := by
  by_cases h1 : 48 ≤ c ∧ c ≤ 57
  · cases f with
    | true =>
      have t0 : (decide (48 ≤ c)) = true := by simp <;> omega
      have t1 : (decide (c ≤ 57)) = true := by simp <;> omega
      have e : stdB c true = false := by unfold stdB letB digB; simp <;> omega
      rw [e]
      clear e h1
      go_enter Tryd.func92, Tryd.ntmps92
      go_wp2
      go_ret
      exact ⟨rfl, rfl⟩
    | false =>
      have t0 : (decide (48 ≤ c)) = true := by simp <;> omega
      have t1 : (decide (c ≤ 57)) = true := by simp <;> omega
      have t2 : (c == 95) = false := by simp <;> omega
      have t3 : (decide (65 ≤ c)) = false := by simp <;> omega
      have e : stdB c false = true := by unfold stdB letB digB; simp <;> omega
      rw [e]
      clear e h1
      go_enter Tryd.func92, Tryd.ntmps92
      go_wp2
      go_ret
      exact ⟨rfl, rfl⟩
  · by_cases h2 : c = 95
    · subst h2
      cases f with
      | true =>
        have e : stdB 95 true = false := rfl
        rw [e]
        clear e h1
        go_enter Tryd.func92, Tryd.ntmps92
        go_wp2
        go_ret
        exact ⟨rfl, rfl⟩
      | false =>
        have e : stdB 95 false = true := rfl
        rw [e]
        clear e h1
        go_enter Tryd.func92, Tryd.ntmps92
        go_wp2
        go_ret
        exact ⟨rfl, rfl⟩
    · by_cases h3 : 65 ≤ c ∧ c ≤ 90
      · have e : stdB c f = true := by unfold stdB letB; simp [h3]
        rw [e]
        have t0 : (decide (48 ≤ c)) = true := by simp <;> omega
        have t1 : (decide (c ≤ 57)) = false := by simp <;> omega
        have t2 : (c == 95) = false := by simp <;> omega
        have t3 : (decide (65 ≤ c)) = true := by simp <;> omega
        have t4 : (decide (c ≤ 90)) = true := by simp <;> omega
        clear e h1 h2 h3
        go_enter Tryd.func92, Tryd.ntmps92
        go_wp2
        go_ret
        exact ⟨rfl, rfl⟩
      · have e : stdB c f = false := by unfold stdB letB digB; cases f <;> simp <;> omega
        rw [e]
        have t2 : (c == 95) = false := by simp <;> omega
        by_cases h4 : 48 ≤ c
        · have t0 : decide (48 ≤ c) = true := decide_eq_true h4
          have t1 : decide (c ≤ 57) = false := decide_eq_false (by omega)
          by_cases h5 : 65 ≤ c
          · have t3 : decide (65 ≤ c) = true := decide_eq_true h5
            have t4 : decide (c ≤ 90) = false := decide_eq_false (by omega)
            clear e h1 h2 h3 h4 h5
            go_enter Tryd.func92, Tryd.ntmps92
            go_wp2
            go_ret
            exact ⟨rfl, rfl⟩
          · have t3 : decide (65 ≤ c) = false := decide_eq_false h5
            clear e h1 h2 h3 h4 h5
            go_enter Tryd.func92, Tryd.ntmps92
            go_wp2
            go_ret
            exact ⟨rfl, rfl⟩
        · have t0 : decide (48 ≤ c) = false := decide_eq_false h4
          have t3 : decide (65 ≤ c) = false := decide_eq_false (by omega)
          clear e h1 h2 h3 h4
          go_enter Tryd.func92, Tryd.ntmps92
          go_wp2
          go_ret
          exact ⟨rfl, rfl⟩
theorem right_out {s : ByteArray} (h : ¬ (1 ≤ s.size ∧ s.size ≤ 16)) : rightB s = false := by
  unfold rightB; simp; omega
theorem right_in {s : ByteArray} (h : 1 ≤ s.size ∧ s.size ≤ 16) : rightB s = allB s s.size := by
  unfold rightB; simp [h.1, h.2]
theorem std_int (c : Int) (k : Nat) : stdB c ((k : Int) == 0) = stdB c (k == 0) := by
  have e : ((k : Int) == 0) = (k == 0) := by rw [Bool.eq_iff_iff]; simp
  rw [e]
set_option maxHeartbeats 400000 in
theorem right_any (s : ByteArray) (w : World) (hs : s.size ≤ maxLen) : Calls Tryd.prog 47 #[.string s] w fun e w' => e = .returned (.bool (rightB s)) ∧ w = w' := by
  unfold maxLen at hs
  by_cases h : 1 ≤ s.size ∧ s.size ≤ 16
  · rw [right_in h]
    have HS : Hid (∀ w, Calls Tryd.prog 91 #[.int .i64 s.size] w fun e w' => e = .returned (.bool true) ∧ w = w') := fun w => by
      have := sized_any s.size w
      rwa [show (decide (1 ≤ (s.size : Int)) && decide ((s.size : Int) ≤ 16)) = true by simp; omega] at this
    have hb := get_bt s
    obtain ⟨R, hR⟩ : ∃ R, allB s s.size = R := ⟨_, rfl⟩
    rw [hR]
    have HR := Lib.hid hR
    have hs16 : (s.size : Int) ≤ 16 := by omega
    clear h hR hs
    go_enter Tryd.func47, Tryd.ntmps47
    go_wp2_with (go_at_call 91; refine (HS.out _).mono ?_; rintro e w' ⟨rfl, rfl⟩)
    go_loop [10] (fun i => ∃ k : Nat, k ≤ s.size ∧ i = .int .i64 k ∧ allB s k = true) (fun i => s.size - (intOf i).toNat)
    case atStart => exact ⟨0, Nat.zero_le _, rfl, rfl⟩
    case round =>
      obtain ⟨k, hk, rfl, hall⟩ := hrel
      have HA := Lib.hid hall
      clear hall
      by_cases hlt : k < s.size
      · have HT : Hid (∀ w, Calls Tryd.prog 92 #[.int .u8 (bt s k), .bool ((k : Int) == 0)] w fun e w' => e = .returned (.bool (stdB (bt s k) (k == 0))) ∧ w = w') := fun w => by
          have := stands_any (bt s k) ((k : Int) == 0) w
          rwa [std_int] at this
        have HK := Lib.hid hk
        have HN : Hid (allB s (k + 1) = stdB (bt s k) (k == 0)) := by show _ = _; rw [all_succ, HA.out]; rfl
        obtain ⟨x, hx⟩ : ∃ x, stdB (bt s k) (k == 0) = x := ⟨_, rfl⟩
        rw [hx] at HT HN
        clear hx hk
        cases x with
        | true =>
          go_wp2_with (go_at_call 92; refine (HT.out _).mono ?_; rintro e w' ⟨rfl, rfl⟩)
          go_round
          case rel => exact ⟨k + 1, by omega, by go_num, HN.out⟩
          case measure => simp [intOf]; omega
        | false =>
          go_wp2_with (go_at_call 92; refine (HT.out _).mono ?_; rintro e w' ⟨rfl, rfl⟩)
          go_ret
          exact ⟨by rw [← HR.out, all_false HN.out (by omega)]; rfl, rfl⟩
      · obtain rfl : k = s.size := by omega
        clear hk hlt
        go_wp2
        go_ret
        exact ⟨by rw [← HR.out, HA.out]; rfl, rfl⟩
  · rw [right_out h]
    have HS : Hid (∀ w, Calls Tryd.prog 91 #[.int .i64 s.size] w fun e w' => e = .returned (.bool false) ∧ w = w') := fun w => by
      have := sized_any s.size w
      rwa [show (decide (1 ≤ (s.size : Int)) && decide ((s.size : Int) ≤ 16)) = false by simp; omega] at this
    clear h hs
    go_enter Tryd.func47, Tryd.ntmps47
    go_wp2_with (go_at_call 91; refine (HS.out _).mono ?_; rintro e w' ⟨rfl, rfl⟩)
    go_ret
    exact ⟨rfl, rfl⟩
end Go.Proofs.YtpdoihndpnpifaaDoor.Nam
