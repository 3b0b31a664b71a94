
/- The function NameMakes returns true for every number and every two texts. Condition: the package-level variables hold what the program lays in them (the card ties that). This text: the walk through the Go text; the row is in the text without the W at its name's end. -/

import Derived.Test.YtbjolbgjohggiaaDoorArgs

import Derived.Test.YtbjolbgjohggiaaDoorNamF

namespace Go.Proofs.YtbjolbgjohggiaaDoor.nameMakes

open Go.RowKit Go.PlainAid Go.Proofs.YtbjolbgjohggiaaDoor.Args

set_option linter.unusedVariables false

open Go.Proofs.YtbjolbgjohggiaaDoor.Nam Go.Proofs.YtbjolbgjohggiaaDoor.Oct

set_option maxRecDepth 8000 in
set_option maxHeartbeats 1600000 in
theorem walk (a0 : Int) (a1 : ByteArray) (a2 : ByteArray) (w : World) (w0 : (Lit.int .i64 a0).wf = true) (w1 : a1.size ≤ maxLen) (w2 : a2.size ≤ maxLen) (hn : Go.Proofs.YtbjolbgjohggiaaDoor.Nam.Tab w) :
    Calls Tryd.prog 8 #[.int .i64 a0, .string a1, .string a2] w fun e w' => e = .returned (.bool true) ∧ Below w.heap.size w w' := by
  have HN := Lib.hid hn
  clear hn
  have b0 := bounds_i64 w0
  by_cases hl : 100 < (a1.size : Int) ∨ 100 < (a2.size : Int)
  · have hor : (decide (100 < (a1.size : Int)) = true) ∨ (decide (100 < (a1.size : Int)) = false ∧ decide (100 < (a2.size : Int)) = true) := by
      by_cases h3 : 100 < (a1.size : Int)
      · exact .inl (decide_eq_true h3)
      · exact .inr ⟨decide_eq_false h3, decide_eq_true (by omega)⟩
    clear hl w0 w1 w2 b0
    rcases hor with t | ⟨t, t'⟩
    all_goals
      go_enter Tryd.func8, Tryd.ntmps8
      go_wp2_with (go_at_call 23; refine (Go.Proofs.YtbjolbgjohggiaaDoor.Nam.awake_any _).mono ?_; rintro e w' ⟨rfl, hb⟩)
      go_ret
      exact ⟨rfl, hb⟩
  · have t : decide (100 < (a1.size : Int)) = false := decide_eq_false (by omega)
    have t' : decide (100 < (a2.size : Int)) = false := decide_eq_false (by omega)
    obtain ⟨m, hmm⟩ : ∃ m, a0.toNat = m := ⟨_, rfl⟩
    have hm : max a0 0 = (m : Int) := by omega
    have hm63 : m ≤ 9223372036854775807 := by omega
    have HMK : Hid (∀ w, Tab w → Calls Tryd.prog 32 #[.int .i64 a0] w fun e w' => e = .returned (.string (mkV m)) ∧ Below w.heap.size w w') := fun w ht => make_any a0 m hm hm63 w ht
    have HDG : Hid (∀ w, Calls Tryd.prog 30 #[.int .i64 m] w fun e w' => e = .returned (.string (decB m)) ∧ Below w.heap.size w w') := fun w => rdigits_any m hm63 w
    have HCM : Hid (∀ w, Calls Tryd.prog 31 #[.string a1, .string a2] w fun e w' => e = .returned (.int .i64 (cmpV a1 a2)) ∧ Below w.heap.size w w') := fun w => compare_any a1 a2 w w1 w2
    have hcl := cmp_less a1 a2
    have hcz := cmp_zero a1 a2
    obtain ⟨C, hC⟩ : ∃ C, cmpV a1 a2 = C := ⟨_, rfl⟩
    rw [hC] at HCM hcl hcz
    obtain ⟨y, hy⟩ : ∃ y, (a1.toList == a2.toList) = y := ⟨_, rfl⟩
    rw [hy] at hcz
    have hless : (decide (a1.size < a2.size) = true ∧ decide (C < 0) = true) ∨ (decide (a1.size < a2.size) = false ∧ (a1.size == a2.size) = false ∧ decide (C < 0) = false) ∨ (decide (a1.size < a2.size) = false ∧ (a1.size == a2.size) = true ∧ decide (C < 0) = Op.bytesLess a1.toList a2.toList) := by
      unfold lessB at hcl
      by_cases h1 : a1.size < a2.size
      · exact .inl ⟨decide_eq_true h1, by rw [hcl, decide_eq_true h1]; rfl⟩
      · by_cases h2 : a1.size = a2.size
        · have h3 : (a1.size == a2.size) = true := by simp; exact h2
          exact .inr (.inr ⟨decide_eq_false h1, h3, by rw [hcl, decide_eq_false h1, h3]; rfl⟩)
        · have h3 : (a1.size == a2.size) = false := by simp; exact h2
          exact .inr (.inl ⟨decide_eq_false h1, h3, by rw [hcl, decide_eq_false h1, h3]; rfl⟩)
    obtain ⟨x, hx⟩ : ∃ x, Op.bytesLess a1.toList a2.toList = x := ⟨_, rfl⟩
    rw [hx] at hless
    have hps := pB_size m
    have hlen : (decB m).size ≤ 20 := by rw [decB_size, Lib.decDigits_length]; exact nd_le m hm63
    have hrt := pB_right m
    have hmk : mkV m = if 16 < (pB m).size then ⟨#[]⟩ else pB m := rfl
    have hpb : (⟨#[80]⟩ : ByteArray) ++ decB m = pB m := rfl
    obtain ⟨D, hD⟩ : ∃ D, decB m = D := ⟨_, rfl⟩
    rw [hD] at HDG hps hlen hpb
    obtain ⟨S, hS⟩ : ∃ S, pB m = S := ⟨_, rfl⟩
    rw [hS] at hps hrt hmk hpb
    have hs1 : (⟨#[80]⟩ : ByteArray).size = 1 := rfl
    have hsum : ¬ 9223372036854775807 < 1 + D.size := by omega
    have hne := nonempty_iff (s := S) (by omega)
    have hss : (S.toList == S.toList) = true := by simp
    clear hcl hl w0 w1 w2 b0 hmm hm63 hC hD hS hlen
    by_cases h16 : 16 < S.size
    · rw [if_pos h16] at hmk
      rw [hmk] at HMK
      have t1 : decide (16 < S.size) = true := decide_eq_true h16
      have t2 : decide (16 < (S.size : Int)) = true := decide_eq_true (by omega)
      have HTB : Hid (∀ w3, Below w.heap.size w w3 → Tab w3) := fun w3 hb => tab_kept HN.out hb
      clear hrt hmk h16 hps
      rcases hless with ⟨l1, l2⟩ | ⟨l1, l2, l3⟩ | ⟨l1, l2, l3⟩
      ·
        obtain rfl : y = false := by rw [← hcz]; simp at l2 ⊢; omega
        go_enter Tryd.func8, Tryd.ntmps8
        go_wp2_with (first
          | (go_at_call 30; refine (HDG.out _).mono ?_; rintro e w3 ⟨rfl, hb3⟩; have HB3 := Lib.hid hb3; clear hb3)
          | (go_at_call 31; refine (HCM.out _).mono ?_; rintro e w4 ⟨rfl, hb4⟩; have HB4 := Lib.hid (HB3.out.trans (hb4.mono HB3.out.size)); clear hb4)
          | (go_at_call 32; refine (HMK.out _ (HTB.out _ HB4.out)).mono ?_; rintro e w5 ⟨rfl, hb5⟩; have HB5 := Lib.hid (HB4.out.trans (hb5.mono HB4.out.size)); clear hb5)
          | (go_at_call 23; refine (Go.Proofs.YtbjolbgjohggiaaDoor.Nam.awake_any _).mono ?_; rintro e w6 ⟨rfl, hb6⟩; have HB6 := Lib.hid (HB5.out.trans (hb6.mono HB5.out.size)); clear hb6))
        go_ret
        exact ⟨rfl, HB6.out⟩
      · have l4 : ((a1.size : Int) == (a2.size : Int)) = false := by simp at l2 ⊢; omega
        cases y with
        | true =>
          go_enter Tryd.func8, Tryd.ntmps8
          go_wp2_with (first
            | (go_at_call 30; refine (HDG.out _).mono ?_; rintro e w3 ⟨rfl, hb3⟩; have HB3 := Lib.hid hb3; clear hb3)
            | (go_at_call 31; refine (HCM.out _).mono ?_; rintro e w4 ⟨rfl, hb4⟩; have HB4 := Lib.hid (HB3.out.trans (hb4.mono HB3.out.size)); clear hb4)
            | (go_at_call 32; refine (HMK.out _ (HTB.out _ HB4.out)).mono ?_; rintro e w5 ⟨rfl, hb5⟩; have HB5 := Lib.hid (HB4.out.trans (hb5.mono HB4.out.size)); clear hb5)
            | (go_at_call 23; refine (Go.Proofs.YtbjolbgjohggiaaDoor.Nam.awake_any _).mono ?_; rintro e w6 ⟨rfl, hb6⟩; have HB6 := Lib.hid (HB5.out.trans (hb6.mono HB5.out.size)); clear hb6))
          go_ret
          exact ⟨rfl, HB6.out⟩
        | false =>
          go_enter Tryd.func8, Tryd.ntmps8
          go_wp2_with (first
            | (go_at_call 30; refine (HDG.out _).mono ?_; rintro e w3 ⟨rfl, hb3⟩; have HB3 := Lib.hid hb3; clear hb3)
            | (go_at_call 31; refine (HCM.out _).mono ?_; rintro e w4 ⟨rfl, hb4⟩; have HB4 := Lib.hid (HB3.out.trans (hb4.mono HB3.out.size)); clear hb4)
            | (go_at_call 32; refine (HMK.out _ (HTB.out _ HB4.out)).mono ?_; rintro e w5 ⟨rfl, hb5⟩; have HB5 := Lib.hid (HB4.out.trans (hb5.mono HB4.out.size)); clear hb5)
            | (go_at_call 23; refine (Go.Proofs.YtbjolbgjohggiaaDoor.Nam.awake_any _).mono ?_; rintro e w6 ⟨rfl, hb6⟩; have HB6 := Lib.hid (HB5.out.trans (hb6.mono HB5.out.size)); clear hb6))
          go_ret
          exact ⟨rfl, HB6.out⟩
      · have l4 : ((a1.size : Int) == (a2.size : Int)) = true := by simp at l2 ⊢; omega
        cases x with
        | true =>
          obtain rfl : y = false := by rw [← hcz]; simp at l3 ⊢; omega
          go_enter Tryd.func8, Tryd.ntmps8
          go_wp2_with (first
            | (go_at_call 30; refine (HDG.out _).mono ?_; rintro e w3 ⟨rfl, hb3⟩; have HB3 := Lib.hid hb3; clear hb3)
            | (go_at_call 31; refine (HCM.out _).mono ?_; rintro e w4 ⟨rfl, hb4⟩; have HB4 := Lib.hid (HB3.out.trans (hb4.mono HB3.out.size)); clear hb4)
            | (go_at_call 32; refine (HMK.out _ (HTB.out _ HB4.out)).mono ?_; rintro e w5 ⟨rfl, hb5⟩; have HB5 := Lib.hid (HB4.out.trans (hb5.mono HB4.out.size)); clear hb5)
            | (go_at_call 23; refine (Go.Proofs.YtbjolbgjohggiaaDoor.Nam.awake_any _).mono ?_; rintro e w6 ⟨rfl, hb6⟩; have HB6 := Lib.hid (HB5.out.trans (hb6.mono HB5.out.size)); clear hb6))
          go_ret
          exact ⟨rfl, HB6.out⟩
        | false =>
          have hx2 : ¬ Op.bytesLess a1.toList a2.toList = true := by rw [hx]; simp
          cases y with
          | true =>
            go_enter Tryd.func8, Tryd.ntmps8
            go_wp2_with (first
              | (go_at_call 30; refine (HDG.out _).mono ?_; rintro e w3 ⟨rfl, hb3⟩; have HB3 := Lib.hid hb3; clear hb3)
              | (go_at_call 31; refine (HCM.out _).mono ?_; rintro e w4 ⟨rfl, hb4⟩; have HB4 := Lib.hid (HB3.out.trans (hb4.mono HB3.out.size)); clear hb4)
              | (go_at_call 32; refine (HMK.out _ (HTB.out _ HB4.out)).mono ?_; rintro e w5 ⟨rfl, hb5⟩; have HB5 := Lib.hid (HB4.out.trans (hb5.mono HB4.out.size)); clear hb5)
              | (go_at_call 23; refine (Go.Proofs.YtbjolbgjohggiaaDoor.Nam.awake_any _).mono ?_; rintro e w6 ⟨rfl, hb6⟩; have HB6 := Lib.hid (HB5.out.trans (hb6.mono HB5.out.size)); clear hb6))
            go_ret
            exact ⟨rfl, HB6.out⟩
          | false =>
            go_enter Tryd.func8, Tryd.ntmps8
            go_wp2_with (first
              | (go_at_call 30; refine (HDG.out _).mono ?_; rintro e w3 ⟨rfl, hb3⟩; have HB3 := Lib.hid hb3; clear hb3)
              | (go_at_call 31; refine (HCM.out _).mono ?_; rintro e w4 ⟨rfl, hb4⟩; have HB4 := Lib.hid (HB3.out.trans (hb4.mono HB3.out.size)); clear hb4)
              | (go_at_call 32; refine (HMK.out _ (HTB.out _ HB4.out)).mono ?_; rintro e w5 ⟨rfl, hb5⟩; have HB5 := Lib.hid (HB4.out.trans (hb5.mono HB4.out.size)); clear hb5)
              | (go_at_call 23; refine (Go.Proofs.YtbjolbgjohggiaaDoor.Nam.awake_any _).mono ?_; rintro e w6 ⟨rfl, hb6⟩; have HB6 := Lib.hid (HB5.out.trans (hb6.mono HB5.out.size)); clear hb6))
            go_ret
            exact ⟨rfl, HB6.out⟩
    · rw [if_neg h16] at hmk
      rw [hmk] at HMK
      have t1 : decide (16 < S.size) = false := decide_eq_false h16
      have t2 : decide (16 < (S.size : Int)) = false := decide_eq_false (by omega)
      have HRI : Hid (∀ w, Calls Tryd.prog 26 #[.string S] w fun e w' => e = .returned (.bool true) ∧ w = w') := fun w => by
        have := rright_any S w (by unfold maxLen; omega)
        rwa [hrt (by omega)] at this
      have HTB : Hid (∀ w3, Below w.heap.size w w3 → Tab w3) := fun w3 hb => tab_kept HN.out hb
      clear hrt hmk h16 hps
      rcases hless with ⟨l1, l2⟩ | ⟨l1, l2, l3⟩ | ⟨l1, l2, l3⟩
      ·
        obtain rfl : y = false := by rw [← hcz]; simp at l2 ⊢; omega
        go_enter Tryd.func8, Tryd.ntmps8
        go_wp2_with (first
          | (go_at_call 30; refine (HDG.out _).mono ?_; rintro e w3 ⟨rfl, hb3⟩; have HB3 := Lib.hid hb3; clear hb3)
          | (go_at_call 31; refine (HCM.out _).mono ?_; rintro e w4 ⟨rfl, hb4⟩; have HB4 := Lib.hid (HB3.out.trans (hb4.mono HB3.out.size)); clear hb4)
          | (go_at_call 32; refine (HMK.out _ (HTB.out _ HB4.out)).mono ?_; rintro e w5 ⟨rfl, hb5⟩; have HB5 := Lib.hid (HB4.out.trans (hb5.mono HB4.out.size)); clear hb5)
          | (go_at_call 26; refine (HRI.out _).mono ?_; rintro e w' ⟨rfl, rfl⟩)
          | (go_at_call 23; refine (Go.Proofs.YtbjolbgjohggiaaDoor.Nam.awake_any _).mono ?_; rintro e w6 ⟨rfl, hb6⟩; have HB6 := Lib.hid (HB5.out.trans (hb6.mono HB5.out.size)); clear hb6))
        go_ret
        exact ⟨rfl, HB6.out⟩
      · have l4 : ((a1.size : Int) == (a2.size : Int)) = false := by simp at l2 ⊢; omega
        cases y with
        | true =>
          go_enter Tryd.func8, Tryd.ntmps8
          go_wp2_with (first
            | (go_at_call 30; refine (HDG.out _).mono ?_; rintro e w3 ⟨rfl, hb3⟩; have HB3 := Lib.hid hb3; clear hb3)
            | (go_at_call 31; refine (HCM.out _).mono ?_; rintro e w4 ⟨rfl, hb4⟩; have HB4 := Lib.hid (HB3.out.trans (hb4.mono HB3.out.size)); clear hb4)
            | (go_at_call 32; refine (HMK.out _ (HTB.out _ HB4.out)).mono ?_; rintro e w5 ⟨rfl, hb5⟩; have HB5 := Lib.hid (HB4.out.trans (hb5.mono HB4.out.size)); clear hb5)
            | (go_at_call 26; refine (HRI.out _).mono ?_; rintro e w' ⟨rfl, rfl⟩)
            | (go_at_call 23; refine (Go.Proofs.YtbjolbgjohggiaaDoor.Nam.awake_any _).mono ?_; rintro e w6 ⟨rfl, hb6⟩; have HB6 := Lib.hid (HB5.out.trans (hb6.mono HB5.out.size)); clear hb6))
          go_ret
          exact ⟨rfl, HB6.out⟩
        | false =>
          go_enter Tryd.func8, Tryd.ntmps8
          go_wp2_with (first
            | (go_at_call 30; refine (HDG.out _).mono ?_; rintro e w3 ⟨rfl, hb3⟩; have HB3 := Lib.hid hb3; clear hb3)
            | (go_at_call 31; refine (HCM.out _).mono ?_; rintro e w4 ⟨rfl, hb4⟩; have HB4 := Lib.hid (HB3.out.trans (hb4.mono HB3.out.size)); clear hb4)
            | (go_at_call 32; refine (HMK.out _ (HTB.out _ HB4.out)).mono ?_; rintro e w5 ⟨rfl, hb5⟩; have HB5 := Lib.hid (HB4.out.trans (hb5.mono HB4.out.size)); clear hb5)
            | (go_at_call 26; refine (HRI.out _).mono ?_; rintro e w' ⟨rfl, rfl⟩)
            | (go_at_call 23; refine (Go.Proofs.YtbjolbgjohggiaaDoor.Nam.awake_any _).mono ?_; rintro e w6 ⟨rfl, hb6⟩; have HB6 := Lib.hid (HB5.out.trans (hb6.mono HB5.out.size)); clear hb6))
          go_ret
          exact ⟨rfl, HB6.out⟩
      · have l4 : ((a1.size : Int) == (a2.size : Int)) = true := by simp at l2 ⊢; omega
        cases x with
        | true =>
          obtain rfl : y = false := by rw [← hcz]; simp at l3 ⊢; omega
          go_enter Tryd.func8, Tryd.ntmps8
          go_wp2_with (first
            | (go_at_call 30; refine (HDG.out _).mono ?_; rintro e w3 ⟨rfl, hb3⟩; have HB3 := Lib.hid hb3; clear hb3)
            | (go_at_call 31; refine (HCM.out _).mono ?_; rintro e w4 ⟨rfl, hb4⟩; have HB4 := Lib.hid (HB3.out.trans (hb4.mono HB3.out.size)); clear hb4)
            | (go_at_call 32; refine (HMK.out _ (HTB.out _ HB4.out)).mono ?_; rintro e w5 ⟨rfl, hb5⟩; have HB5 := Lib.hid (HB4.out.trans (hb5.mono HB4.out.size)); clear hb5)
            | (go_at_call 26; refine (HRI.out _).mono ?_; rintro e w' ⟨rfl, rfl⟩)
            | (go_at_call 23; refine (Go.Proofs.YtbjolbgjohggiaaDoor.Nam.awake_any _).mono ?_; rintro e w6 ⟨rfl, hb6⟩; have HB6 := Lib.hid (HB5.out.trans (hb6.mono HB5.out.size)); clear hb6))
          go_ret
          exact ⟨rfl, HB6.out⟩
        | false =>
          have hx2 : ¬ Op.bytesLess a1.toList a2.toList = true := by rw [hx]; simp
          cases y with
          | true =>
            go_enter Tryd.func8, Tryd.ntmps8
            go_wp2_with (first
              | (go_at_call 30; refine (HDG.out _).mono ?_; rintro e w3 ⟨rfl, hb3⟩; have HB3 := Lib.hid hb3; clear hb3)
              | (go_at_call 31; refine (HCM.out _).mono ?_; rintro e w4 ⟨rfl, hb4⟩; have HB4 := Lib.hid (HB3.out.trans (hb4.mono HB3.out.size)); clear hb4)
              | (go_at_call 32; refine (HMK.out _ (HTB.out _ HB4.out)).mono ?_; rintro e w5 ⟨rfl, hb5⟩; have HB5 := Lib.hid (HB4.out.trans (hb5.mono HB4.out.size)); clear hb5)
              | (go_at_call 26; refine (HRI.out _).mono ?_; rintro e w' ⟨rfl, rfl⟩)
              | (go_at_call 23; refine (Go.Proofs.YtbjolbgjohggiaaDoor.Nam.awake_any _).mono ?_; rintro e w6 ⟨rfl, hb6⟩; have HB6 := Lib.hid (HB5.out.trans (hb6.mono HB5.out.size)); clear hb6))
            go_ret
            exact ⟨rfl, HB6.out⟩
          | false =>
            go_enter Tryd.func8, Tryd.ntmps8
            go_wp2_with (first
              | (go_at_call 30; refine (HDG.out _).mono ?_; rintro e w3 ⟨rfl, hb3⟩; have HB3 := Lib.hid hb3; clear hb3)
              | (go_at_call 31; refine (HCM.out _).mono ?_; rintro e w4 ⟨rfl, hb4⟩; have HB4 := Lib.hid (HB3.out.trans (hb4.mono HB3.out.size)); clear hb4)
              | (go_at_call 32; refine (HMK.out _ (HTB.out _ HB4.out)).mono ?_; rintro e w5 ⟨rfl, hb5⟩; have HB5 := Lib.hid (HB4.out.trans (hb5.mono HB4.out.size)); clear hb5)
              | (go_at_call 26; refine (HRI.out _).mono ?_; rintro e w' ⟨rfl, rfl⟩)
              | (go_at_call 23; refine (Go.Proofs.YtbjolbgjohggiaaDoor.Nam.awake_any _).mono ?_; rintro e w6 ⟨rfl, hb6⟩; have HB6 := Lib.hid (HB5.out.trans (hb6.mono HB5.out.size)); clear hb6))
            go_ret
            exact ⟨rfl, HB6.out⟩

end Go.Proofs.YtbjolbgjohggiaaDoor.nameMakes
