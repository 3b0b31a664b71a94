/- What package crc's calls that only reckon return (a bit of a sum, a product, a power, Join), and the document's sum of a text. Conditions: numbers fit their kinds; a text is no longer than the model lets one be. -/
import Derived.Test.YtlfhldfclleclaaProg
import Derived.Test.YtlfhldfclleclaaCrcM
import Derived.Lib.Hide
import Derived.Deep.RegionWith
namespace Go.Proofs.Ytlfhldfclleclaa.Crc
open Go.RowKit Go.PlainAid

theorem ret_int {k : IntKind} {a b : Int} (h : a = b) : Ending.returned (.int k a) = .returned (.int k b) := by rw [h]

theorem step_any (v : Nat) (hv : v < 4294967296) (w : World) :
    Calls Try.prog 33 #[.int .u32 v] w fun e w' => e = .returned (.int .u32 (st v)) ∧ w = w' := by
  have hx := u32_xor_nat (v / 2) 3988292384 (by omega) (by omega)
  simp only [Int.natCast_ediv] at hx
  rcases Nat.mod_two_eq_zero_or_one v with h | h
  · have t : ((v : Int) % 2 == 1) = false := by simp; omega
    have e : st v = v / 2 := by unfold st; rw [if_neg (by omega)]
    rw [e]
    clear h e hx
    go_enter Try.func33, Try.ntmps33
    go_wp2
    go_ret
    exact ⟨ret_int (by omega), rfl⟩
  · have t : ((v : Int) % 2 == 1) = true := by simp; omega
    have e : st v = v / 2 ^^^ 3988292384 := by unfold st; rw [if_pos h]
    rw [e]
    obtain ⟨X, hX⟩ : ∃ X, X = v / 2 ^^^ 3988292384 := ⟨_, rfl⟩
    rw [← hX] at hx ⊢
    have hx2 : bits .xor .u32 ((v : Int) / 2) 3988292384 = (X : Int) := hx
    clear h e hx hX
    go_enter Try.func33, Try.ntmps33
    go_wp2
    go_ret
    exact ⟨rfl, rfl⟩

theorem shifted_any (v : Nat) (hv : v < 4294967296) (w : World) :
    Calls Try.prog 37 #[.int .u32 v] w fun e w' => e = .returned (.int .u32 (st v)) ∧ w = w' := by
  have hx := u32_xor_nat (v / 2) 3988292384 (by omega) (by omega)
  have ha := u32_and_nat v 1 hv (by omega)
  rw [nat_mask1] at ha
  simp only [Int.natCast_ediv] at hx
  have ha2 : bits .and .u32 (v : Int) 1 = ((v % 2 : Nat) : Int) := ha
  clear ha
  rcases Nat.mod_two_eq_zero_or_one v with h | h
  · have e : st v = v / 2 := by unfold st; rw [if_neg (by omega)]
    rw [e]
    rw [h] at ha2
    clear h e hx
    go_enter Try.func37, Try.ntmps37
    go_wp2
    go_ret
    exact ⟨ret_int (by omega), rfl⟩
  · have e : st v = v / 2 ^^^ 3988292384 := by unfold st; rw [if_pos h]
    rw [e]
    rw [h] at ha2
    obtain ⟨X, hX⟩ : ∃ X, X = v / 2 ^^^ 3988292384 := ⟨_, rfl⟩
    rw [← hX] at hx ⊢
    have hx2 : bits .xor .u32 ((v : Int) / 2) 3988292384 = (X : Int) := hx
    clear h e hx hX
    go_enter Try.func37, Try.ntmps37
    go_wp2
    go_ret
    exact ⟨rfl, rfl⟩

theorem product_any (a b : Nat) (ha : a < 4294967296) (hb : b < 4294967296) (w : World) :
    Calls Try.prog 35 #[.int .u32 a, .int .u32 b] w fun e w' => e = .returned (.int .u32 (mul a b)) ∧ w = w' := by
  have hbit : Hid (∀ k, k ≤ 31 → bits .and .u32 (b : Int) ((2147483648 / 2 ^ k : Nat) : Int) = ((b &&& 2147483648 / 2 ^ k : Nat) : Int)) := by
    intro k hk
    exact u32_and_nat b _ hb (Nat.lt_of_le_of_lt (Nat.div_le_self _ _) (by omega))
  have htest : Hid (∀ k, k ≤ 31 → ((((b &&& 2147483648 / 2 ^ k : Nat) : Int) != 0) = b.testBit (31 - k))) := by
    intro k hk
    have e : 2147483648 / 2 ^ k = 2 ^ (31 - k) := by
      rw [show (2147483648 : Nat) = 2 ^ 31 from rfl, Nat.pow_div hk (by omega)]
    rw [e, nat_bit, Nat.testBit_eq_decide_div_mod_eq]
    have hp : 0 < 2 ^ (31 - k) := Nat.pow_pos (by omega)
    obtain ⟨P, hP⟩ : ∃ P : Nat, P = 2 ^ (31 - k) := ⟨_, rfl⟩
    rw [← hP] at hp ⊢
    rcases Nat.mod_two_eq_zero_or_one (b / P) with h | h
    · rw [h]; simp
    · rw [h]; simp; omega
  go_enter Try.func35, Try.ntmps35
  go_wp2
  go_loop [0, 5, 6] (fun x p t => ∃ k : Nat, k ≤ 32 ∧ x = .int .u32 (stk k a) ∧ p = .int .u32 (mulk a b k) ∧ t = .int .u32 ((2147483648 / 2 ^ k : Nat) : Int)) (fun _ _ t => (intOf t).toNat)
  case atStart => exact ⟨0, by omega, rfl, rfl, by simp⟩
  case round =>
    obtain ⟨k, hk, rfl, rfl, rfl⟩ := hrel
    by_cases hlt : k < 32
    · have hbk := hbit.out k (by omega)
      have htk := htest.out k (by omega)
      obtain ⟨T, hT⟩ : ∃ T : Nat, T = 2147483648 / 2 ^ k := ⟨_, rfl⟩
      have hTpos : 0 < T := by
        rw [hT, show (2147483648 : Nat) = 2 ^ 31 from rfl, Nat.pow_div (by omega) (by omega)]
        exact Nat.pow_pos (by omega)
      have hTle : T ≤ 2147483648 := by rw [hT]; exact Nat.div_le_self _ _
      have HT2 : Hid (2147483648 / 2 ^ (k + 1) = T / 2) := by show _ = _; rw [hT, Nat.pow_succ, Nat.div_div_eq_div_mul]
      rw [← hT] at hbk htk ⊢
      obtain ⟨X, hX⟩ : ∃ X : Nat, X = stk k a := ⟨_, rfl⟩
      obtain ⟨Y, hY⟩ : ∃ Y : Nat, Y = mulk a b k := ⟨_, rfl⟩
      have hXl : X < 4294967296 := by rw [hX]; exact stk_lt k ha
      have hYl : Y < 4294967296 := by rw [hY]; exact mulk_lt b k ha
      have hxor := u32_xor_nat Y X hYl hXl
      have HS : Hid (stk (k + 1) a = st X) := by show _ = _; rw [hX]; rfl
      have HM : Hid (mulk a b (k + 1) = if b.testBit (31 - k) then Y ^^^ X else Y) := by show _ = _; rw [hX, hY]; rfl
      rw [← hX, ← hY]
      obtain ⟨A2, hA2⟩ : ∃ A2 : Nat, A2 = b &&& T := ⟨_, rfl⟩
      rw [← hA2] at hbk htk
      clear hX hY hT hA2
      have hne : ((T : Int) != 0) = true := by simp; omega
      cases hbt : b.testBit (31 - k) with
      | true =>
        rw [hbt] at htk HM
        go_wp2_with (go_at_call 37; refine (shifted_any X hXl _).mono ?_; rintro e w' ⟨rfl, rfl⟩)
        go_round
        case rel => exact ⟨k + 1, by omega, by rw [HS.out], by rw [HM.out]; rfl, by rw [HT2.out]; go_num⟩
        case measure => simp [intOf]; omega
      | false =>
        rw [hbt] at htk HM
        go_wp2_with (go_at_call 37; refine (shifted_any X hXl _).mono ?_; rintro e w' ⟨rfl, rfl⟩)
        go_round
        case rel => exact ⟨k + 1, by omega, by rw [HS.out], by rw [HM.out]; rfl, by rw [HT2.out]; go_num⟩
        case measure => simp [intOf]; omega
    · obtain rfl : k = 32 := by omega
      have e0 : (2147483648 / 2 ^ 32 : Nat) = 0 := by decide
      rw [e0]
      have HM : Hid (mul a b = mulk a b 32) := rfl
      obtain ⟨X, hX⟩ : ∃ X : Nat, X = stk 32 a := ⟨_, rfl⟩
      obtain ⟨Y, hY⟩ : ∃ Y : Nat, Y = mulk a b 32 := ⟨_, rfl⟩
      rw [← hX, ← hY]
      rw [← hY] at HM
      clear hX hY e0
      go_wp2
      go_ret
      exact ⟨ret_int (by rw [HM.out]), rfl⟩

theorem product_at (a b m : Nat) (ha : a < 4294967296) (hb : b < 4294967296) (h : mul a b = m) (w : World) :
    Calls Try.prog 35 #[.int .u32 a, .int .u32 b] w fun e w' => e = .returned (.int .u32 m) ∧ w = w' := by
  subst h; exact product_any a b ha hb w
theorem one_lt : one < 4294967296 := by unfold one; omega
theorem and_one_i64 (n : Nat) (hn : n ≤ 9223372036854775807) : bits .and .i64 (n : Int) 1 = ((n % 2 : Nat) : Int) := by
  have h1 : (BitVec.ofInt 64 (n : Int)).toNat = n := by
    rw [BitVec.ofInt_natCast, BitVec.toNat_ofNat]; exact Nat.mod_eq_of_lt (by omega)
  show IntKind.i64.wrap ((BitVec.ofInt 64 (n : Int) &&& BitVec.ofInt 64 1).toNat : Int) = _
  rw [BitVec.toNat_and, h1, show (BitVec.ofInt 64 1).toNat = 1 from by decide, nat_mask1]
  exact IntWalk.i64_in _ ⟨by omega, by omega⟩
set_option maxHeartbeats 400000 in
theorem power_nat (n : Nat) (hn : n ≤ 9223372036854775807) (w : World) :
    Calls Try.prog 36 #[.int .i64 n] w fun e w' => e = .returned (.int .u32 (stk (8 * n) one)) ∧ w = w' := by
  go_enter Try.func36, Try.ntmps36
  go_wp2
  go_loop [0, 3, 4] (fun x p q => ∃ m i c : Nat, c + m * i = n ∧ m ≤ n ∧ x = .int .i64 m ∧ p = .int .u32 (stk (8 * c) one) ∧ q = .int .u32 (stk (8 * i) one)) (fun x _ _ => (intOf x).toNat)
  case atStart => exact ⟨n, 1, 0, by omega, Nat.le_refl _, rfl, rfl, by rw [show 8 * 1 = 8 from rfl, byte_one]; rfl⟩
  case round =>
    obtain ⟨m, i, c, hc, hm, rfl, rfl, rfl⟩ := hrel
    have hp : stk (8 * c) one < 4294967296 := stk_lt _ one_lt
    have hq : stk (8 * i) one < 4294967296 := stk_lt _ one_lt
    have h1 : mul (stk (8 * c) one) (stk (8 * i) one) = stk (8 * (c + i)) one := by
      rw [mul_stk hp, ← stk_add]; congr 1; omega
    have h2 : mul (stk (8 * i) one) (stk (8 * i) one) = stk (8 * (i + i)) one := by
      rw [mul_stk hq, ← stk_add]; congr 1; omega
    obtain ⟨X, hX⟩ : ∃ X, X = stk (8 * c) one := ⟨_, rfl⟩
    obtain ⟨Y, hY⟩ : ∃ Y, Y = stk (8 * i) one := ⟨_, rfl⟩
    obtain ⟨X2, hX2⟩ : ∃ X2, X2 = stk (8 * (c + i)) one := ⟨_, rfl⟩
    obtain ⟨Y2, hY2⟩ : ∃ Y2, Y2 = stk (8 * (i + i)) one := ⟨_, rfl⟩
    rw [← hX, ← hY, ← hX2] at h1
    rw [← hY, ← hY2] at h2
    rw [← hX] at hp
    rw [← hY] at hq
    rw [← hX, ← hY]
    have H1 := Lib.hid h1
    have H2 := Lib.hid h2
    have HX := Lib.hid hX
    have HX2 := Lib.hid hX2
    have HY2 := Lib.hid hY2
    have HC := Lib.hid hc
    clear h1 h2 hX hY hX2 hY2 hc
    by_cases h0 : m = 0
    · subst h0
      go_wp2
      go_ret
      have hcn : c = n := by have := HC.out; omega
      exact ⟨ret_int (by rw [HX.out, hcn]), rfl⟩
    · have hpos : (0 : Int) < (m : Int) := by omega
      have hand := and_one_i64 m (by omega)
      rcases Nat.mod_two_eq_zero_or_one m with hm2 | hm2
      · rw [hm2] at hand
        have HN : Hid (c + m / 2 * (i + i) = n) := by
          show _ = _
          have h := HC.out
          obtain ⟨k, rfl⟩ : ∃ k, m = 2 * k := ⟨m / 2, by omega⟩
          rw [show 2 * k / 2 = k by omega, ← h, Nat.mul_add, Nat.mul_assoc, Nat.two_mul]
        clear hm2
        go_wp2_with (go_at_call 35; refine (product_at Y Y Y2 hq hq H2.out _).mono ?_; rintro e w' ⟨rfl, rfl⟩)
        go_round
        case rel => exact ⟨m / 2, i + i, c, HN.out, by omega, by go_num, by rw [HX.out], by rw [HY2.out]⟩
        case measure => simp [intOf]; omega
      · rw [hm2] at hand
        have HN : Hid (c + i + m / 2 * (i + i) = n) := by
          show _ = _
          have h := HC.out
          obtain ⟨k, rfl⟩ : ∃ k, m = 2 * k + 1 := ⟨m / 2, by omega⟩
          rw [show (2 * k + 1) / 2 = k by omega, ← h, Nat.mul_add, Nat.add_mul, Nat.one_mul, Nat.mul_assoc, Nat.two_mul]
          omega
        clear hm2
        go_wp2_with (first
          | (go_at_call_of 35 (Value.int .u32 X); refine (product_at X Y X2 hp hq H1.out _).mono ?_; rintro e w' ⟨rfl, rfl⟩)
          | (go_at_call 35; refine (product_at Y Y Y2 hq hq H2.out _).mono ?_; rintro e w' ⟨rfl, rfl⟩))
        go_round
        case rel => exact ⟨m / 2, i + i, c + i, HN.out, by omega, by go_num, by rw [HX2.out], by rw [HY2.out]⟩
        case measure => simp [intOf]; omega
theorem power_any (n : Int) (hn : n ≤ 9223372036854775807) (w : World) :
    Calls Try.prog 36 #[.int .i64 n] w fun e w' => e = .returned (.int .u32 (stk (8 * n.toNat) one)) ∧ w = w' := by
  rcases Int.lt_or_le n 0 with h | h
  · have e : n.toNat = 0 := by omega
    rw [e]
    have t : ¬ (0 < n) := by omega
    clear e
    go_enter Try.func36, Try.ntmps36
    go_wp2
    refine wp_loop_rounds 1 ?_; rw [rounds_succ]
    go_wp2
    go_ret
    exact ⟨rfl, rfl⟩
  · obtain ⟨m, rfl⟩ : ∃ m : Nat, n = m := ⟨n.toNat, by omega⟩
    exact power_nat m (by omega) w

/-- The sum of two texts, joined. -/
theorem join_any (a b : Nat) (n : Int) (ha : a < 4294967296) (hb : b < 4294967296) (hn : n ≤ 9223372036854775807) (w : World) :
    Calls Try.prog 29 #[.int .u32 a, .int .u32 b, .int .i64 n] w fun e w' => e = .returned (.int .u32 ((stk (8 * n.toNat) a ^^^ b : Nat) : Int)) ∧ w = w' := by
  have hs : stk (8 * n.toNat) one < 4294967296 := stk_lt _ one_lt
  have hm := mul_stk ha (8 * n.toNat)
  obtain ⟨Q, hQ⟩ : ∃ Q, Q = stk (8 * n.toNat) one := ⟨_, rfl⟩
  obtain ⟨R, hR⟩ : ∃ R, R = stk (8 * n.toNat) a := ⟨_, rfl⟩
  have hRl : R < 4294967296 := by rw [hR]; exact stk_lt _ ha
  rw [← hQ] at hs hm
  rw [← hR] at hm ⊢
  have hx := u32_xor_nat R b hRl hb
  have HP : Hid (∀ w : World, Calls Try.prog 36 #[.int .i64 n] w fun e w' => e = .returned (.int .u32 Q) ∧ w = w') := by
    intro w; rw [hQ]; exact power_any n hn w
  have HM := Lib.hid hm
  obtain ⟨X, hX⟩ : ∃ X, X = R ^^^ b := ⟨_, rfl⟩
  rw [← hX] at hx ⊢
  clear hQ hR hm hX
  go_enter Try.func29, Try.ntmps29
  go_wp2_with (first
    | (go_at_call 36; refine (HP.out _).mono ?_; rintro e w' ⟨rfl, rfl⟩)
    | (go_at_call 35; refine (product_at a Q R ha hs HM.out _).mono ?_; rintro e w' ⟨rfl, rfl⟩))
  go_ret
  exact ⟨rfl, rfl⟩
end Go.Proofs.Ytlfhldfclleclaa.Crc
