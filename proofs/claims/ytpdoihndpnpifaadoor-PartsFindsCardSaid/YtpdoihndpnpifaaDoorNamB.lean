
/- What the document's Right tells of a text: the same reckoning as the program's; and the chapter's examples of package name. Condition: the text takes no more than what the model lets a text take. -/

import Derived.Test.YtpdoihndpnpifaaDoorNamA

namespace Go.Proofs.YtpdoihndpnpifaaDoor.Nam

open Go.RowKit Go.PlainAid Go.Proofs.YtpdoihndpnpifaaDoor.Oct

set_option linter.unusedVariables false

theorem rright_first {s : ByteArray} (h1 : 1 ≤ s.size) (h2 : s.size ≤ 16) (h : letB (bt s 0) = false) : rightB s = false := by
  rw [right_in ⟨h1, h2⟩]
  refine all_false (k := 1) ?_ h1
  rw [all_succ]
  unfold stdB; rw [h]; rfl
theorem empty_iff {s : ByteArray} (h : s.size = 0) : s.toList.isEmpty = true := by
  have : s.data = #[] := by
    apply Array.eq_empty_of_size_eq_zero; exact h
  rw [ByteArray.toList_eq, this]; rfl
theorem nonempty_iff {s : ByteArray} (h : 1 ≤ s.size) : s.toList.isEmpty = false := by
  rw [ByteArray.toList_eq]
  cases hh : s.data.toList.isEmpty with
  | false => rfl
  | true =>
    rw [List.isEmpty_iff] at hh
    have : s.size = 0 := by show s.data.size = 0; rw [← Array.length_toList, hh]; rfl
    omega
set_option maxRecDepth 4000 in
set_option maxHeartbeats 800000 in
theorem rright_any (s : ByteArray) (w : World) (hs : s.size ≤ maxLen) : Calls Tryd.prog 48 #[.string s] w fun e w' => e = .returned (.bool (rightB s)) ∧ w = w' := by
  unfold maxLen at hs
  rcases (show s.size = 0 ∨ 16 < s.size ∨ (1 ≤ s.size ∧ s.size ≤ 16) by omega) with h | h | h
  · rw [right_out (by omega)]
    have he := empty_iff h
    clear h hs
    go_enter Tryd.func48, Tryd.ntmps48
    go_wp2
    go_ret
    exact ⟨rfl, rfl⟩
  · rw [right_out (by omega)]
    have he := nonempty_iff (s := s) (by omega)
    have t : decide (16 < (s.size : Int)) = true := decide_eq_true (by omega)
    clear h hs
    go_enter Tryd.func48, Tryd.ntmps48
    go_wp2
    go_ret
    exact ⟨rfl, rfl⟩
  · have he := nonempty_iff (s := s) h.1
    have t : decide (16 < (s.size : Int)) = false := decide_eq_false (by omega)
    have hb := get_bt s
    have h0 : 0 < s.size := h.1
    have hs16 : (s.size : Int) ≤ 16 := by omega
    have HL : Hid (∀ k w, Calls Tryd.prog 93 #[.int .u8 (bt s k)] w fun e w' => e = .returned (.bool (letB (bt s k))) ∧ w = w') := fun k w => letter_any _ w
    cases hl : letB (bt s 0) with
    | false =>
      rw [rright_first h.1 h.2 hl]
      have HF : Hid (∀ w, Calls Tryd.prog 93 #[.int .u8 (bt s 0)] w fun e w' => e = .returned (.bool false) ∧ w = w') := fun w => by rw [← hl]; exact letter_any _ w
      clear h hs hl
      go_enter Tryd.func48, Tryd.ntmps48
      go_wp2_with (go_at_call 93; refine (HF.out _).mono ?_; rintro e w' ⟨rfl, rfl⟩)
      go_ret
      exact ⟨rfl, rfl⟩
    | true =>
      rw [right_in h]
      obtain ⟨R, hR⟩ : ∃ R, allB s s.size = R := ⟨_, rfl⟩
      rw [hR]
      have HR := Lib.hid hR
      have HF : Hid (∀ w, Calls Tryd.prog 93 #[.int .u8 (bt s 0)] w fun e w' => e = .returned (.bool true) ∧ w = w') := fun w => by rw [← hl]; exact letter_any _ w
      have HLL := Lib.hid hl
      clear h hs hl hR
      go_enter Tryd.func48, Tryd.ntmps48
      go_wp2_with (go_at_call 93; refine (HF.out _).mono ?_; rintro e w' ⟨rfl, rfl⟩)
      go_loop [3] (fun i => ∃ k : Nat, k ≤ s.size ∧ i = .int .i64 k ∧ allB s k = true) (fun i => s.size - (intOf i).toNat)
      case atStart => exact ⟨0, Nat.zero_le _, rfl, rfl⟩
      case round =>
        obtain ⟨k, hk, rfl, hall⟩ := hrel
        have HA := Lib.hid hall
        clear hall
        by_cases hlt : k < s.size
        · have HK := Lib.hid hk
          have HN : Hid (allB s (k + 1) = stdB (bt s k) (k == 0)) := by show _ = _; rw [all_succ, HA.out]; rfl
          obtain ⟨c, hc⟩ : ∃ c, bt s k = c := ⟨_, rfl⟩
          have HC := Lib.hid hc
          have HB : Hid (∀ w, Calls Tryd.prog 93 #[.int .u8 (bt s k)] w fun e w' => e = .returned (.bool (letB c)) ∧ w = w') := fun w => by rw [← hc]; exact letter_any _ w
          clear hk
          cases hl : letB c with
          | true =>
            rw [hl] at HB
            have HT : Hid (allB s (k + 1) = true) := by show _ = _; rw [HN.out, HC.out]; unfold stdB; rw [hl]; rfl
            clear hl hc
            go_wp2_with (go_at_call 93; refine (HB.out _).mono ?_; rintro e w' ⟨rfl, rfl⟩)
            go_round
            case rel => exact ⟨k + 1, by omega, by go_num, HT.out⟩
            case measure => simp [intOf]; omega
          | false =>
            rw [hl] at HB
            have hk0 : (k == 0) = false := by
              rcases Nat.eq_zero_or_pos k with rfl | h
              · rw [← hc, HLL.out] at hl; cases hl
              · simp; omega
            have hst : stdB c (k == 0) = (digB c || (c == 95)) := by unfold stdB; rw [hl, hk0]; rfl
            have HNC : Hid (allB s (k + 1) = (digB c || (c == 95))) := by show _ = _; rw [HN.out, HC.out, hst]
            clear hl hk0 hst
            by_cases h95 : c = 95
            · have HT : Hid (allB s (k + 1) = true) := by show _ = _; rw [HNC.out, h95]; rfl
              have t1 : (bt s k != 95) = false := by rw [hc, h95]; rfl
              have t2 : (bt s k == 95) = true := by rw [hc, h95]; rfl
              clear hc h95
              go_wp2_with (go_at_call 93; refine (HB.out _).mono ?_; rintro e w' ⟨rfl, rfl⟩)
              go_round
              case rel => exact ⟨k + 1, by omega, by go_num, HT.out⟩
              case measure => simp [intOf]; omega
            · have t1 : (bt s k != 95) = true := by rw [hc]; simp; exact h95
              have t2 : (bt s k == 95) = false := by rw [hc]; simp; exact h95
              by_cases h48 : c < 48
              · have HT : Hid (allB s (k + 1) = false) := by show _ = _; rw [HNC.out]; unfold digB; simp; omega
                have t3 : decide (bt s k < 48) = true := by rw [hc]; exact decide_eq_true h48
                clear hc h95 h48
                go_wp2_with (go_at_call 93; refine (HB.out _).mono ?_; rintro e w' ⟨rfl, rfl⟩)
                go_ret
                exact ⟨by rw [← HR.out, all_false HT.out (by omega)]; rfl, rfl⟩
              · have t3 : decide (bt s k < 48) = false := by rw [hc]; exact decide_eq_false h48
                by_cases h57 : 57 < c
                · have HT : Hid (allB s (k + 1) = false) := by show _ = _; rw [HNC.out]; unfold digB; simp; omega
                  have t4 : decide (57 < bt s k) = true := by rw [hc]; exact decide_eq_true h57
                  clear hc h95 h48 h57
                  go_wp2_with (go_at_call 93; refine (HB.out _).mono ?_; rintro e w' ⟨rfl, rfl⟩)
                  go_ret
                  exact ⟨by rw [← HR.out, all_false HT.out (by omega)]; rfl, rfl⟩
                · have HT : Hid (allB s (k + 1) = true) := by show _ = _; rw [HNC.out]; unfold digB; simp; omega
                  have t4 : decide (57 < bt s k) = false := by rw [hc]; exact decide_eq_false h57
                  clear hc h95 h48 h57
                  go_wp2_with (go_at_call 93; refine (HB.out _).mono ?_; rintro e w' ⟨rfl, rfl⟩)
                  go_round
                  case rel => exact ⟨k + 1, by omega, by go_num, HT.out⟩
                  case measure => simp [intOf]; omega
        · obtain rfl : k = s.size := by omega
          clear hk hlt
          go_wp2
          go_ret
          exact ⟨by rw [← HR.out, HA.out]; rfl, rfl⟩
theorem aw_yes : rightB ⟨#[78, 65, 86, 95, 49]⟩ = true := by decide +kernel
theorem aw_no : rightB ⟨#[49, 78, 65, 86]⟩ = false := by decide +kernel
end Go.Proofs.YtpdoihndpnpifaaDoor.Nam
