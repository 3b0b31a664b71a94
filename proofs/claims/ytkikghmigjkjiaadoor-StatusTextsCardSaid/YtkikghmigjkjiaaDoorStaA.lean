
/- A status as text: a number's digits, as the library and the document write them; the words of a status. Condition: the library's table of powers of ten holds what the library lays there. -/

import Derived.Test.YtkikghmigjkjiaaDoorOctP

import Derived.Test.YtkikghmigjkjiaaDoorShelf

import Derived.Deep.QuietTactic

import Derived.BigQuiet

import Derived.IntWalk

import Derived.Lib.Hide

namespace Go.Proofs.YtkikghmigjkjiaaDoor.Sta

open Go.RowKit Go.PlainAid Go.Proofs.YtkikghmigjkjiaaDoor.Oct

set_option linter.unusedVariables false

set_option linter.unusedSimpArgs false

def tens : ByteArray := ⟨#[48, 49, 50, 51, 52, 53, 54, 55, 56, 57]⟩
theorem tens_at : ∀ r : Fin 10, tens.extract r (r + 1) = ⟨#[UInt8.ofNat (48 + r)]⟩ := by decide +kernel
/-- A number's decimal digits. -/
def decB (n : Nat) : ByteArray := ⟨(Lib.decDigits n).toArray⟩
/-- A number's digits, with its sign. -/
def itB (n : Int) : ByteArray := ⟨(Lib.itoa n).toArray⟩
theorem itB_pos (n : Nat) : itB (n : Int) = decB n := by unfold itB decB; rw [Lib.itoa_nonneg]
theorem itB_neg (u : Nat) (h : 1 ≤ u) : itB (-(u : Int)) = ⟨#[45]⟩ ++ decB u := by
  unfold itB decB
  rw [Lib.itoa_neg u h]
  apply ByteArray.ext
  rw [ByteArray.data_append]
  simp
theorem decB_size (n : Nat) : (decB n).size = (Lib.decDigits n).length := by show (Lib.decDigits n).toArray.size = _; simp
theorem nd_pow (u k : Nat) (h : u < 10 ^ (k + 1)) : Lib.nDigits u ≤ k + 1 := by
  induction k generalizing u with
  | zero => rw [Lib.nDigits_small (by simpa using h)]; omega
  | succ k ih =>
    rw [Lib.nDigits]
    split
    · omega
    · have := ih (u / 10) (by rw [Nat.pow_succ] at h; omega)
      omega
theorem dec_le (n : Nat) (h : n ≤ 18446744073709551615) : (decB n).size ≤ 20 := by
  rw [decB_size, Lib.decDigits_length]
  exact nd_pow n 19 (by omega)
theorem it_le (n : Int) (h : -9223372036854775808 ≤ n ∧ n ≤ 9223372036854775807) : (itB n).size ≤ 21 := by
  rcases Int.lt_or_le n 0 with hn | hn
  · obtain ⟨u, rfl⟩ : ∃ u : Nat, n = -(u : Int) := ⟨n.natAbs, by omega⟩
    rw [itB_neg u (by omega), ByteArray.size_append]
    have := dec_le u (by omega)
    show 1 + _ ≤ 21
    omega
  · obtain ⟨u, rfl⟩ : ∃ u : Nat, n = (u : Int) := ⟨n.toNat, by omega⟩
    rw [itB_pos]
    have := dec_le u (by omega)
    omega
theorem decB_small {n : Nat} (h : n < 10) : decB n = ⟨#[UInt8.ofNat (48 + n)]⟩ := by unfold decB; rw [Lib.decDigits_one h]
theorem decB_big {n : Nat} (h : ¬ n < 10) : decB n = decB (n / 10) ++ ⟨#[UInt8.ofNat (48 + n % 10)]⟩ := by
  unfold decB
  rw [Lib.decDigits, dif_neg h]
  apply ByteArray.ext
  rw [ByteArray.data_append]
  simp
def QPost (x : ByteArray) (w : World) (e : Ending) (w' : World) : Prop := e = .returned (.string x) ∧ ∃ n, w' = w.drewN n
theorem slice_ten (k : IntKind) (r : Nat) (h : r < 10) (w : World) : (Instr.slice 9 (.string tens) (some (.int k r)) (some (.int k ((r : Int) + 1))) none).run Tryd.prog w = .ok (.string ⟨#[UInt8.ofNat (48 + r)]⟩) w := by
  have hs : (tens.size : Int) = 10 := rfl
  rw [run_slice_string w 9 tens k k _ _ Tryd.underlying9 (by omega) (by omega) (by omega)]
  have := tens_at ⟨r, h⟩
  rw [← this]
  congr 3
set_option maxHeartbeats 400000 in
theorem big_any : ∀ (n : Nat), n ≤ 18446744073709551615 → ∀ w : World, Calls Tryd.prog 29 #[.int .u64 n] w (QPost (decB n) w) := by
  intro n
  induction n using Nat.strongRecOn with
  | _ n ih =>
    intro hn w
    by_cases h : n < 10
    · have hsl := slice_ten .u64 n h
      rw [decB_small h]
      have t1 : decide ((n : Int) < 10) = true := decide_eq_true (by omega)
      have t2 : decide (n < 10) = true := decide_eq_true h
      have d7 : IntKind.u64.wrap ((n : Int) + 1) = (n : Int) + 1 := by rw [IntKind.wrap_u64]; omega
      have hb : (n : Int) ≤ 9 := by omega
      obtain ⟨X, hX⟩ : ∃ X : ByteArray, (⟨#[UInt8.ofNat (48 + n)]⟩ : ByteArray) = X := ⟨_, rfl⟩
      rw [hX] at hsl ⊢
      unfold tens at hsl
      clear ih hn h hX
      go_enter Tryd.func29, Tryd.ntmps29
      go_wp2
      go_ret
      exact ⟨rfl, 0, rfl⟩
    · obtain ⟨q, hq⟩ : ∃ q, n / 10 = q := ⟨_, rfl⟩
      obtain ⟨r, hr⟩ : ∃ r, n % 10 = r := ⟨_, rfl⟩
      have hr10 : r < 10 := by omega
      have hsl := slice_ten .u64 r hr10
      have hrec : Hid (∀ w : World, Calls Tryd.prog 29 #[.int .u64 q] w (QPost (decB q) w)) := ih q (by omega) (by omega)
      have hlen := dec_le q (by omega)
      rw [decB_big h, hq, hr]
      obtain ⟨X, hX⟩ : ∃ X : ByteArray, (⟨#[UInt8.ofNat (48 + r)]⟩ : ByteArray) = X := ⟨_, rfl⟩
      have hXs : X.size = 1 := by rw [← hX]; rfl
      obtain ⟨Y, hY⟩ : ∃ Y : ByteArray, decB q = Y := ⟨_, rfl⟩
      rw [hX] at hsl ⊢
      rw [hY] at hrec hlen ⊢
      have hsum : ¬ 9223372036854775807 < Y.size + X.size := by omega
      have t1 : decide ((n : Int) < 10) = false := decide_eq_false (by omega)
      have t2 : decide (n < 10) = false := decide_eq_false h
      have d1 : (n : Int) / 10 = (q : Int) := by omega
      have d2 : (n : Int) % 10 = (r : Int) := by omega
      have d3 : (n : Int).tdiv 10 = (q : Int) := by rw [Int.tdiv_eq_ediv_of_nonneg (by omega)]; exact d1
      have d4 : (n : Int).tmod 10 = (r : Int) := by rw [Int.tmod_eq_emod_of_nonneg (by omega)]; exact d2
      have d5 : IntKind.u64.wrap (q : Int) = (q : Int) := by rw [IntKind.wrap_u64]; omega
      have d6 : IntKind.u64.wrap (r : Int) = (r : Int) := by rw [IntKind.wrap_u64]; omega
      have d7 : IntKind.u64.wrap ((r : Int) + 1) = (r : Int) + 1 := by rw [IntKind.wrap_u64]; omega
      unfold tens at hsl
      clear ih hn h hX hY hXs hlen hq hr hr10
      go_enter Tryd.func29, Tryd.ntmps29
      go_wp2_with fail
      go_quiet ((go_at_call 29; exact Calls.quiet_of (hrec.out _)))
      go_wp2
      go_ret
      exact ⟨rfl, _, rfl⟩
set_option maxHeartbeats 400000 in
theorem dig_pos : ∀ (n : Nat), n ≤ 9223372036854775807 → ∀ w : World, Calls Tryd.prog 42 #[.int .i64 n] w (QPost (decB n) w) := by
  intro n
  induction n using Nat.strongRecOn with
  | _ n ih =>
    intro hn w
    by_cases h : n < 10
    · have hsl := slice_ten .i64 n h
      rw [decB_small h]
      have t0 : decide ((n : Int) < 0) = false := decide_eq_false (by omega)
      have t1 : decide ((n : Int) < 10) = true := decide_eq_true (by omega)
      have t2 : decide (n < 10) = true := decide_eq_true h
      have hb : (n : Int) ≤ 9 := by omega
      obtain ⟨X, hX⟩ : ∃ X : ByteArray, (⟨#[UInt8.ofNat (48 + n)]⟩ : ByteArray) = X := ⟨_, rfl⟩
      rw [hX] at hsl ⊢
      unfold tens at hsl
      clear ih hn h hX
      go_enter Tryd.func42, Tryd.ntmps42
      go_wp2
      go_ret
      exact ⟨rfl, 0, rfl⟩
    · obtain ⟨q, hq⟩ : ∃ q, n / 10 = q := ⟨_, rfl⟩
      obtain ⟨r, hr⟩ : ∃ r, n % 10 = r := ⟨_, rfl⟩
      have hr10 : r < 10 := by omega
      have hsl := slice_ten .i64 r hr10
      have hrec : Hid (∀ w : World, Calls Tryd.prog 42 #[.int .i64 q] w (QPost (decB q) w)) := ih q (by omega) (by omega)
      have hlen := dec_le q (by omega)
      rw [decB_big h, hq, hr]
      obtain ⟨X, hX⟩ : ∃ X : ByteArray, (⟨#[UInt8.ofNat (48 + r)]⟩ : ByteArray) = X := ⟨_, rfl⟩
      have hXs : X.size = 1 := by rw [← hX]; rfl
      obtain ⟨Y, hY⟩ : ∃ Y : ByteArray, decB q = Y := ⟨_, rfl⟩
      rw [hX] at hsl ⊢
      rw [hY] at hrec hlen ⊢
      have hsum : ¬ 9223372036854775807 < Y.size + X.size := by omega
      have t0 : decide ((n : Int) < 0) = false := decide_eq_false (by omega)
      have t1 : decide ((n : Int) < 10) = false := decide_eq_false (by omega)
      have t2 : decide (n < 10) = false := decide_eq_false h
      have d1 : (n : Int) / 10 = (q : Int) := by omega
      have d2 : (n : Int) % 10 = (r : Int) := by omega
      have d3 : (n : Int).tdiv 10 = (q : Int) := by rw [Int.tdiv_eq_ediv_of_nonneg (by omega)]; exact d1
      have d4 : (n : Int).tmod 10 = (r : Int) := by rw [Int.tmod_eq_emod_of_nonneg (by omega)]; exact d2
      have d5 : IntKind.i64.wrap (q : Int) = (q : Int) := by rw [IntKind.wrap_i64]; omega
      have d6 : IntKind.i64.wrap (r : Int) = (r : Int) := by rw [IntKind.wrap_i64]; omega
      have d7 : IntKind.i64.wrap ((r : Int) + 1) = (r : Int) + 1 := by rw [IntKind.wrap_i64]; omega
      unfold tens at hsl
      clear ih hn h hX hY hXs hlen hq hr hr10
      go_enter Tryd.func42, Tryd.ntmps42
      go_wp2_with fail
      go_quiet ((go_at_call 42; exact Calls.quiet_of (hrec.out _)))
      go_wp2
      go_ret
      exact ⟨rfl, _, rfl⟩
set_option maxHeartbeats 400000 in
theorem dig_neg : ∀ (n : Nat), 1 ≤ n → n ≤ 9223372036854775808 → ∀ w : World, Calls Tryd.prog 42 #[.int .i64 (-(n : Int))] w (QPost (⟨#[45]⟩ ++ decB n) w) := by
  intro n
  induction n using Nat.strongRecOn with
  | _ n ih =>
    intro hn1 hn w
    by_cases h : n < 10
    · have hsl := slice_ten .i64 n h
      rw [decB_small h]
      obtain ⟨z, hz⟩ : ∃ z : Int, -(n : Int) = z := ⟨_, rfl⟩
      have t0 : decide (z < 0) = true := decide_eq_true (by omega)
      have t1 : decide (-10 < z) = true := decide_eq_true (by omega)
      have d0 : IntKind.i64.wrap (-z) = (n : Int) := by rw [IntKind.wrap_i64]; omega
      have d7 : IntKind.i64.wrap ((n : Int) + 1) = (n : Int) + 1 := by rw [IntKind.wrap_i64]; omega
      rw [hz]
      obtain ⟨X, hX⟩ : ∃ X : ByteArray, (⟨#[UInt8.ofNat (48 + n)]⟩ : ByteArray) = X := ⟨_, rfl⟩
      have hXs : X.size = 1 := by rw [← hX]; rfl
      rw [hX] at hsl ⊢
      have hs1 : (⟨#[45]⟩ : ByteArray).size = 1 := rfl
      have hsum : ¬ 9223372036854775807 < 1 + X.size := by omega
      unfold tens at hsl
      clear ih hn h hX hz hn1 hXs
      go_enter Tryd.func42, Tryd.ntmps42
      go_wp2
      go_ret
      exact ⟨rfl, 0, rfl⟩
    · obtain ⟨q, hq⟩ : ∃ q, n / 10 = q := ⟨_, rfl⟩
      obtain ⟨r, hr⟩ : ∃ r, n % 10 = r := ⟨_, rfl⟩
      have hr10 : r < 10 := by omega
      have hsl := slice_ten .i64 r hr10
      have hrec : Hid (∀ w : World, Calls Tryd.prog 42 #[.int .i64 (-(q : Int))] w (QPost (⟨#[45]⟩ ++ decB q) w)) := ih q (by omega) (by omega) (by omega)
      have hlen := dec_le q (by omega)
      rw [decB_big h, hq, hr, ← ByteArray.append_assoc]
      obtain ⟨X, hX⟩ : ∃ X : ByteArray, (⟨#[UInt8.ofNat (48 + r)]⟩ : ByteArray) = X := ⟨_, rfl⟩
      have hXs : X.size = 1 := by rw [← hX]; rfl
      obtain ⟨Y, hY⟩ : ∃ Y : ByteArray, (⟨#[45]⟩ : ByteArray) ++ decB q = Y := ⟨_, rfl⟩
      have hYs : Y.size ≤ 21 := by rw [← hY, ByteArray.size_append]; show 1 + _ ≤ _; omega
      rw [hX] at hsl ⊢
      rw [hY] at hrec ⊢
      obtain ⟨z, hz⟩ : ∃ z : Int, -(n : Int) = z := ⟨_, rfl⟩
      obtain ⟨zq, hzq⟩ : ∃ z : Int, -(q : Int) = z := ⟨_, rfl⟩
      rw [hz]
      rw [hzq] at hrec
      have hsum : ¬ 9223372036854775807 < Y.size + X.size := by omega
      have t0 : decide (z < 0) = true := decide_eq_true (by omega)
      have t1 : decide (-10 < z) = false := decide_eq_false (by omega)
      have d3 : z.tdiv 10 = zq := by rw [← hz, ← hzq, Int.neg_tdiv, Int.tdiv_eq_ediv_of_nonneg (by omega)]; omega
      have d4 : z.tmod 10 = -(r : Int) := by rw [← hz, Int.neg_tmod, Int.tmod_eq_emod_of_nonneg (by omega)]; omega
      have d5 : IntKind.i64.wrap zq = zq := by rw [IntKind.wrap_i64]; omega
      have d6 : IntKind.i64.wrap (-(r : Int)) = -(r : Int) := by rw [IntKind.wrap_i64]; omega
      have d8 : IntKind.i64.wrap (r : Int) = (r : Int) := by rw [IntKind.wrap_i64]; omega
      have d7 : IntKind.i64.wrap ((r : Int) + 1) = (r : Int) + 1 := by rw [IntKind.wrap_i64]; omega
      unfold tens at hsl
      clear ih hn h hX hY hXs hlen hq hr hr10 hn1 hYs hz hzq
      go_enter Tryd.func42, Tryd.ntmps42
      go_wp2_with fail
      go_quiet ((go_at_call 42; exact Calls.quiet_of (hrec.out _)))
      go_wp2
      go_ret
      exact ⟨rfl, _, rfl⟩
theorem dig_any (n : Int) (h : -9223372036854775808 ≤ n ∧ n ≤ 9223372036854775807) (w : World) : Calls Tryd.prog 42 #[.int .i64 n] w (QPost (itB n) w) := by
  rcases Int.lt_or_le n 0 with hn | hn
  · obtain ⟨u, rfl⟩ : ∃ u : Nat, n = -(u : Int) := ⟨n.natAbs, by omega⟩
    rw [itB_neg u (by omega)]
    exact dig_neg u (by omega) (by omega) w
  · obtain ⟨u, rfl⟩ : ∃ u : Nat, n = (u : Int) := ⟨n.toNat, by omega⟩
    rw [itB_pos]
    exact dig_pos u (by omega) w
theorem rdig_any (n : Int) (h : -9223372036854775808 ≤ n ∧ n ≤ 9223372036854775807) (w : World) : Calls Tryd.prog 30 #[.int .i64 n] w (QPost (itB n) w) := by
  have H := Lib.hid (dig_any n h)
  obtain ⟨X, hX⟩ : ∃ X, itB n = X := ⟨_, rfl⟩
  rw [hX] at H ⊢
  clear hX h
  go_enter Tryd.func30, Tryd.ntmps30
  go_wp2_with (go_at_call 42; refine (H.out _).mono ?_; rintro e w' ⟨rfl, m, rfl⟩)
  go_ret
  exact ⟨rfl, m, rfl⟩
end Go.Proofs.YtkikghmigjkjiaaDoor.Sta
