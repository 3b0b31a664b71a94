/- What package clock's Sum and Product return, and the document's: the sum, the product, or the greatest number, if that is above it. Condition: numbers fit 64 bits. -/
import Derived.Test.YtbamildjaolheaaClkA
import Derived.Shelf.Bits.Mul64
import Derived.Laws.Externs
namespace Go.Proofs.Ytbamildjaolheaa.Clk
open Go.RowKit Go.PlainAid

/-- A number that ends. -/
def sat (x : Nat) : Nat := min x 18446744073709551615
theorem add64 (x y : Nat) (w : World) : (callFunc 20 #[.int .u64 x, .int .u64 y, .int .u64 0]).run Try.prog w =
    .ok (.value (.tuple #[.int .u64 (((x + y) % 18446744073709551616 : Nat) : Int), .int .u64 (((x + y) / 18446744073709551616 : Nat) : Int)])) w := by
  rw [run_callFunc_extern Try.func20 (by kernel_rfl) (by kernel_rfl) (by kernel_rfl) (e := add64Entry) (by kernel_rfl), run_add64 x y 0 (by omega) (by omega) (by omega) (by omega)]
  simp only [Result.andThen]
  congr 5 <;> omega
theorem sum_any (a b : Nat) (ha : a ≤ 18446744073709551615) (hb : b ≤ 18446744073709551615) (w : World) :
    Calls Try.prog 16 #[.int .u64 a, .int .u64 b] w fun e w' => e = .returned (.int .u64 (sat (a + b))) ∧ w = w' := by
  obtain ⟨S, hS⟩ : ∃ S, (a + b) % 18446744073709551616 = S := ⟨_, rfl⟩
  rcases Nat.lt_or_ge (a + b) 18446744073709551616 with h | h
  · have h64 : ∀ w, (callFunc 20 #[.int .u64 a, .int .u64 b, .int .u64 0]).run Try.prog w = .ok (.value (.tuple #[.int .u64 S, .int .u64 0])) w := by
      intro w; rw [add64, hS, show (a + b) / 18446744073709551616 = 0 by omega]; rfl
    have e : sat (a + b) = S := by unfold sat; omega
    rw [e]
    clear hS e h ha hb
    go_enter Try.func16, Try.ntmps16
    go_wp2
    go_ret
    exact ⟨rfl, rfl⟩
  · have h64 : ∀ w, (callFunc 20 #[.int .u64 a, .int .u64 b, .int .u64 0]).run Try.prog w = .ok (.value (.tuple #[.int .u64 S, .int .u64 1])) w := by
      intro w; rw [add64, hS, show (a + b) / 18446744073709551616 = 1 by omega]; rfl
    have e : sat (a + b) = 18446744073709551615 := by unfold sat; omega
    rw [e]
    clear hS e h ha hb
    go_enter Try.func16, Try.ntmps16
    go_wp2
    go_ret
    exact ⟨rfl, rfl⟩
theorem rsum_any (a b : Nat) (ha : a ≤ 18446744073709551615) (hb : b ≤ 18446744073709551615) (w : World) :
    Calls Try.prog 17 #[.int .u64 a, .int .u64 b] w fun e w' => e = .returned (.int .u64 (sat (a + b))) ∧ w = w' := by
  obtain ⟨S, hS⟩ : ∃ S, (a + b) % 18446744073709551616 = S := ⟨_, rfl⟩
  have hw : IntKind.u64.wrap ((a : Int) + (b : Int)) = (S : Int) := by rw [IntKind.wrap_u64, ← hS]; omega
  rcases Nat.lt_or_ge (a + b) 18446744073709551616 with h | h
  · have e : sat (a + b) = a + b := by unfold sat; omega
    rw [e]
    clear hS e hw
    go_enter Try.func17, Try.ntmps17
    go_wp2
    go_ret
    exact ⟨ret_int (by omega), rfl⟩
  · have e : sat (a + b) = 18446744073709551615 := by unfold sat; omega
    have hSa : S < a := by omega
    rw [e]
    clear hS e
    go_enter Try.func17, Try.ntmps17
    go_wp2
    go_ret
    exact ⟨rfl, rfl⟩

set_option maxHeartbeats 1000000 in
theorem mul64_any (x y : Nat) (hx : x < 18446744073709551616) (hy : y < 18446744073709551616) (w : World) :
    Calls Try.prog 21 #[.int .u64 x, .int .u64 y] w fun e w' => e = .returned (.tuple #[.int .u64 ((x * y / 18446744073709551616 : Nat) : Int), .int .u64 ((x * y % 18446744073709551616 : Nat) : Int)]) ∧ w = w' := by
  obtain ⟨bd, bt, bw, hhi⟩ := Lib.mul64_hi x y hx hy
  have ba := Lib.half_mul_le (a := x / 4294967296) (b := y / 4294967296) (by omega) (by omega)
  have bb := Lib.half_mul_le (a := x / 4294967296) (b := y % 4294967296) (by omega) (by omega)
  have bc := Lib.half_mul_le (a := x % 4294967296) (b := y / 4294967296) (by omega) (by omega)
  have ba' : x / 4294967296 * (y / 4294967296) < 18446744073709551616 := by omega
  have bb' : x / 4294967296 * (y % 4294967296) < 18446744073709551616 := by omega
  have bc' : x % 4294967296 * (y / 4294967296) < 18446744073709551616 := by omega
  have bh1 : x / 4294967296 * (y / 4294967296) + (x / 4294967296 * (y % 4294967296) + x % 4294967296 * (y % 4294967296) / 4294967296) / 4294967296 < 18446744073709551616 := by omega
  have bh : x / 4294967296 * (y / 4294967296) + (x / 4294967296 * (y % 4294967296) + x % 4294967296 * (y % 4294967296) / 4294967296) / 4294967296 + ((x / 4294967296 * (y % 4294967296) + x % 4294967296 * (y % 4294967296) / 4294967296) % 4294967296 + x % 4294967296 * (y / 4294967296)) / 4294967296 < 18446744073709551616 := by omega
  go_enter Try.func21, Try.ntmps21
  go_wp2
  simp only [Mul64.maskN x hx, Mul64.maskN y hy, Mul64.divN, Mul64.mulN, Mul64.addN, Mul64.wrapN _ bd, Mul64.wrapN _ bb', Mul64.wrapN _ bt, Mul64.maskN _ bt, Mul64.wrapN _ bc', Mul64.wrapN _ bw, Mul64.wrapN _ ba', Mul64.wrapN _ bh1, Mul64.wrapN _ bh, Mul64.wrapM (x * y)]
  rw [hhi]
  go_ret2
  exact ⟨rfl, rfl⟩
theorem mul64_at (x y : Nat) (H L : Nat) (hx : x < 18446744073709551616) (hy : y < 18446744073709551616) (hH : x * y / 18446744073709551616 = H) (hL : x * y % 18446744073709551616 = L) (w : World) :
    Calls Try.prog 21 #[.int .u64 x, .int .u64 y] w fun e w' => e = .returned (.tuple #[.int .u64 H, .int .u64 L]) ∧ w = w' := by
  subst hH; subst hL; exact mul64_any x y hx hy w
theorem prod_any (a b : Nat) (ha : a ≤ 18446744073709551615) (hb : b ≤ 18446744073709551615) (w : World) :
    Calls Try.prog 18 #[.int .u64 a, .int .u64 b] w fun e w' => e = .returned (.int .u64 (sat (a * b))) ∧ w = w' := by
  obtain ⟨L, hL⟩ : ∃ L, a * b % 18446744073709551616 = L := ⟨_, rfl⟩
  obtain ⟨H, hH⟩ : ∃ H, a * b / 18446744073709551616 = H := ⟨_, rfl⟩
  have H64 : Hid (∀ w, Calls Try.prog 21 #[.int .u64 a, .int .u64 b] w fun e w' => e = .returned (.tuple #[.int .u64 H, .int .u64 L]) ∧ w = w') := fun w => mul64_at a b H L (by omega) (by omega) hH hL w
  rcases Nat.eq_zero_or_pos H with h | h
  · subst h
    have e : sat (a * b) = L := by unfold sat; omega
    rw [e]
    clear hL hH e
    go_enter Try.func18, Try.ntmps18
    go_wp2_with (go_at_call 21; refine (H64.out _).mono ?_; rintro e w' ⟨rfl, rfl⟩)
    go_ret
    exact ⟨rfl, rfl⟩
  · have e : sat (a * b) = 18446744073709551615 := by unfold sat; omega
    have t : ((H : Int) != 0) = true := by simp; omega
    rw [e]
    clear hL hH e h
    go_enter Try.func18, Try.ntmps18
    go_wp2_with (go_at_call 21; refine (H64.out _).mono ?_; rintro e w' ⟨rfl, rfl⟩)
    go_ret
    exact ⟨rfl, rfl⟩

theorem rsum_at (a b c : Nat) (ha : a ≤ 18446744073709551615) (hb : b ≤ 18446744073709551615) (h : sat (a + b) = c) (w : World) :
    Calls Try.prog 17 #[.int .u64 a, .int .u64 b] w fun e w' => e = .returned (.int .u64 c) ∧ w = w' := by
  subst h; exact rsum_any a b ha hb w
theorem sat_le (x : Nat) : sat x ≤ 18446744073709551615 := by unfold sat; omega
theorem sat_add (x y : Nat) : sat (sat x + sat y) = sat (x + y) := by unfold sat; omega
theorem dbl_odd (X Y c V : Nat) (h : X + Y * (2 * c + 1) = V) : (X + Y) + (Y + Y) * c = V := by
  rw [Nat.mul_add, Nat.mul_left_comm] at h
  rw [Nat.add_mul]; omega
theorem dbl_even (X Y c V : Nat) (h : X + Y * (2 * c) = V) : X + (Y + Y) * c = V := by
  rw [Nat.mul_left_comm] at h
  rw [Nat.add_mul]; omega
/-- What the rounds of the document's product keep: the product is what is gathered, and what is left to be. -/
def PRel (V : Nat) (a b o : Value) : Prop := ∃ X Y c : Nat, X + Y * c = V ∧ c ≤ 18446744073709551615 ∧ a = .int .u64 (sat Y) ∧ b = .int .u64 c ∧ o = .int .u64 (sat X)
set_option maxHeartbeats 800000 in
theorem rprod_any (a b : Nat) (ha : a ≤ 18446744073709551615) (hb : b ≤ 18446744073709551615) (w : World) :
    Calls Try.prog 19 #[.int .u64 a, .int .u64 b] w fun e w' => e = .returned (.int .u64 (sat (a * b))) ∧ w = w' := by
  obtain ⟨V, hV⟩ : ∃ V, a * b = V := ⟨_, rfl⟩
  rw [hV]
  have e0 : sat a = a := by unfold sat; omega
  have HV := Lib.hid hV
  have E0 := Lib.hid e0
  have HB := Lib.hid hb
  clear hV e0 ha hb
  go_enter Try.func19, Try.ntmps19
  go_wp2
  go_loop [0, 1, 5] (fun x y o => PRel V x y o) (fun _ y _ => (intOf y).toNat)
  case atStart => exact ⟨0, a, b, by have := HV.out; omega, HB.out, by rw [E0.out], rfl, rfl⟩
  case round =>
    obtain ⟨X, Y, c, hc, hcl, rfl, rfl, rfl⟩ := hrel
    obtain ⟨O, hO⟩ : ∃ O, sat X = O := ⟨_, rfl⟩
    obtain ⟨A, hA⟩ : ∃ A, sat Y = A := ⟨_, rfl⟩
    obtain ⟨D, hD⟩ : ∃ D, sat (A + A) = D := ⟨_, rfl⟩
    obtain ⟨P, hP⟩ : ∃ P, sat (O + A) = P := ⟨_, rfl⟩
    have hOl : O ≤ 18446744073709551615 := by rw [← hO]; exact sat_le _
    have hAl : A ≤ 18446744073709551615 := by rw [← hA]; exact sat_le _
    rw [hO, hA]
    have HD := Lib.hid hD
    have HP := Lib.hid hP
    have HD2 : Hid (sat (Y + Y) = D) := by show _ = _; rw [← hD, ← hA, sat_add]
    have HP2 : Hid (sat (X + Y) = P) := by show _ = _; rw [← hP, ← hO, ← hA, sat_add]
    have HO := Lib.hid hO
    have HC := Lib.hid hc
    clear hO hA hD hP hc
    by_cases h0 : c = 0
    · subst h0
      have E : Hid (O = sat V) := by show _ = _; rw [← HO.out, ← HC.out]; simp
      go_wp2
      go_ret
      exact ⟨ret_int (by rw [E.out]), rfl⟩
    · have hpos : (0 : Int) < (c : Int) := by omega
      rcases Nat.mod_two_eq_zero_or_one c with h2 | h2
      · have t : ((c : Int) % 2 == 1) = false := by simp; omega
        have HN : Hid (X + (Y + Y) * (c / 2) = V) := by
          show _ = _
          have h := HC.out
          obtain ⟨k, rfl⟩ : ∃ k, c = 2 * k := ⟨c / 2, by omega⟩
          rw [show 2 * k / 2 = k by omega]; exact dbl_even X Y k V h
        clear h2
        go_wp2_with (go_at_call 17; refine (rsum_at A A D hAl hAl HD.out _).mono ?_; rintro e w' ⟨rfl, rfl⟩)
        go_round
        case rel => exact ⟨X, Y + Y, c / 2, HN.out, by omega, by rw [HD2.out], by go_num, by rw [HO.out]⟩
        case measure => simp [intOf]; omega
      · have t : ((c : Int) % 2 == 1) = true := by simp; omega
        have HN : Hid ((X + Y) + (Y + Y) * (c / 2) = V) := by
          show _ = _
          have h := HC.out
          obtain ⟨k, rfl⟩ : ∃ k, c = 2 * k + 1 := ⟨c / 2, by omega⟩
          rw [show (2 * k + 1) / 2 = k by omega]; exact dbl_odd X Y k V h
        clear h2
        go_wp2_with fail
        refine (rsum_at O A P hOl hAl HP.out _).mono ?_
        rintro e w' ⟨rfl, rfl⟩
        go_wp2_with fail
        refine (rsum_at A A D hAl hAl HD.out _).mono ?_
        rintro e w' ⟨rfl, rfl⟩
        go_wp2
        go_round
        case rel => exact ⟨X + Y, Y + Y, c / 2, HN.out, by omega, by rw [HD2.out], by go_num, by rw [HP2.out]⟩
        case measure => simp [intOf]; omega
end Go.Proofs.Ytbamildjaolheaa.Clk
