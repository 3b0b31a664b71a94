/- Plain arithmetic for package crc: one bit of a sum, eight bits, sums as a fold, products of polynomials by shifts, and why joined sums are right. It says nothing of the program. No condition. -/
import Derived.WalkKit
import Derived.PlainAid
import Derived.Laws.BitsAllLaws
namespace Go.Proofs.Ytlfhldfclleclaa.Crc
open Go.RowKit

/-! ### A bit of a sum -/
def st (v : Nat) : Nat := if v % 2 = 1 then v / 2 ^^^ 3988292384 else v / 2
theorem st_zero : st 0 = 0 := by decide
theorem xor_mod2 (a b : Nat) : (a ^^^ b) % 2 = (a % 2 + b % 2) % 2 := by
  have h := Nat.xor_mod_two_pow (a := a) (b := b) (n := 1)
  rw [show (2 : Nat) ^ 1 = 2 from rfl] at h
  rw [h]
  rcases Nat.mod_two_eq_zero_or_one a with ha | ha <;> rcases Nat.mod_two_eq_zero_or_one b with hb | hb <;> rw [ha, hb] <;> rfl
theorem st_xor (a b : Nat) : st (a ^^^ b) = st a ^^^ st b := by
  unfold st
  have hm := xor_mod2 a b
  rw [Nat.xor_div_two]
  rcases Nat.mod_two_eq_zero_or_one a with ha | ha <;> rcases Nat.mod_two_eq_zero_or_one b with hb | hb
  · rw [if_neg (by omega), if_neg (by omega), if_neg (by omega)]
  · rw [if_pos (by omega), if_neg (by omega), if_pos (by omega), Nat.xor_assoc]
  · rw [if_pos (by omega), if_pos (by omega), if_neg (by omega), Nat.xor_assoc, Nat.xor_comm (b / 2), ← Nat.xor_assoc]
  · rw [if_neg (by omega), if_pos (by omega), if_pos (by omega)]
    rw [Nat.xor_assoc (a / 2), Nat.xor_comm (b / 2), ← Nat.xor_assoc 3988292384, Nat.xor_self, Nat.zero_xor]
theorem st_lt {v : Nat} (h : v < 4294967296) : st v < 4294967296 := by
  unfold st
  split
  · exact Nat.xor_lt_two_pow (n := 32) (by omega) (by omega)
  · omega

/-! ### Many bits -/
def stk : Nat → Nat → Nat
  | 0, v => v
  | k + 1, v => st (stk k v)
theorem stk_xor (k a b : Nat) : stk k (a ^^^ b) = stk k a ^^^ stk k b := by
  induction k with
  | zero => rfl
  | succ k ih => simp only [stk, ih, st_xor]
theorem stk_zero (k : Nat) : stk k 0 = 0 := by
  induction k with
  | zero => rfl
  | succ k ih => simp only [stk, ih, st_zero]
theorem stk_lt (k : Nat) {v : Nat} (h : v < 4294967296) : stk k v < 4294967296 := by
  induction k with
  | zero => exact h
  | succ k ih => exact st_lt ih
theorem stk_add (j k v : Nat) : stk (j + k) v = stk j (stk k v) := by
  induction j with
  | zero => simp [stk]
  | succ j ih => rw [Nat.succ_add]; simp only [stk, ih]
theorem stk_even (k : Nat) : ∀ v, stk k (v * 2 ^ k) = v := by
  induction k with
  | zero => intro v; simp [stk]
  | succ k ih =>
    intro v
    have e : v * 2 ^ (k + 1) = (v * 2 ^ k) * 2 := by rw [Nat.pow_succ]; exact (Nat.mul_assoc _ _ _).symm
    have h1 : st (v * 2 ^ (k + 1)) = v * 2 ^ k := by
      unfold st
      rw [e, if_neg (by omega)]
      omega
    rw [Nat.add_comm k 1] at h1 ⊢
    rw [Nat.add_comm 1 k, stk_add k 1]
    have h2 : stk 1 (v * 2 ^ (k + 1)) = st (v * 2 ^ (k + 1)) := rfl
    rw [h2, Nat.add_comm k 1, h1]
    exact ih v

/-! ### A byte of a sum -/
theorem split8 (v : Nat) : v = (v / 256 * 256) ^^^ (v % 256) := by
  apply Nat.eq_of_testBit_eq
  intro i
  rw [Nat.testBit_xor]
  have e1 : (v / 256 * 256).testBit i = (v.testBit i && decide (8 ≤ i)) := by
    have : v / 256 * 256 = (v >>> 8) <<< 8 := by rw [Nat.shiftRight_eq_div_pow, Nat.shiftLeft_eq]
    rw [this, Nat.testBit_shiftLeft, Nat.testBit_shiftRight]
    by_cases h8 : 8 ≤ i
    · simp [h8]
    · simp [h8]
  have e2 : (v % 256).testBit i = (v.testBit i && decide (i < 8)) := by
    have := Nat.testBit_mod_two_pow v 8 i
    rw [show (2 : Nat) ^ 8 = 256 from rfl] at this
    rw [this, Bool.and_comm]
  rw [e1, e2]
  by_cases h8 : 8 ≤ i
  · simp [h8, show ¬ i < 8 by omega]
  · simp [h8, show i < 8 by omega]
theorem low_xor (v b : Nat) (hb : b < 256) : (v % 256) ^^^ b = (v ^^^ b) % 256 := by
  have h := Nat.xor_mod_two_pow (a := v) (b := b) (n := 8)
  rw [show (2 : Nat) ^ 8 = 256 from rfl] at h
  rw [h, Nat.mod_eq_of_lt hb]
theorem byte_step (v b : Nat) : stk 8 (v ^^^ b) = (v / 256) ^^^ stk 8 ((v % 256) ^^^ b) := by
  have h1 : v ^^^ b = (v / 256 * 256) ^^^ ((v % 256) ^^^ b) := by
    rw [← Nat.xor_assoc, ← split8]
  rw [h1, stk_xor]
  have h2 := stk_even 8 (v / 256)
  rw [show (2 : Nat) ^ 8 = 256 from rfl] at h2
  rw [h2]

/-! ### A text's sum -/
/-- What rests behind bytes. -/
def rest (r : Nat) (l : List UInt8) : Nat := l.foldl (fun r c => stk 8 (r ^^^ c.toNat)) r
def ones : Nat := 4294967295
def sum (l : List UInt8) : Nat := 4294967295 - rest 4294967295 l
theorem rest_snoc (r : Nat) (l : List UInt8) (c : UInt8) : rest r (l ++ [c]) = stk 8 (rest r l ^^^ c.toNat) := by simp [rest]
theorem rest_append (r : Nat) (a b : List UInt8) : rest r (a ++ b) = rest (rest r a) b := by simp [rest]
theorem rest_lt {r : Nat} (h : r < 4294967296) (l : List UInt8) : rest r l < 4294967296 := by
  induction l generalizing r with
  | nil => exact h
  | cons c l ih =>
    refine ih (r := stk 8 (r ^^^ c.toNat)) (stk_lt 8 ?_)
    have := c.toNat_lt
    exact Nat.xor_lt_two_pow (n := 32) (by omega) (by omega)
theorem not_xor {v : Nat} (h : v < 4294967296) : 4294967295 - v = v ^^^ 4294967295 := by
  apply Nat.eq_of_testBit_eq
  intro i
  have e : 4294967295 - v = 2 ^ 32 - (v + 1) := by omega
  have e2 : 4294967295 = 2 ^ 32 - 1 := by decide
  rw [Nat.testBit_xor, e, Nat.testBit_two_pow_sub_succ (by omega), e2, Nat.testBit_two_pow_sub_one]
  by_cases hi : i < 32
  · simp [hi]
  · have : v.testBit i = false := Nat.testBit_lt_two_pow (Nat.lt_of_lt_of_le (show v < 2 ^ 32 by omega) (Nat.pow_le_pow_right (by omega) (by omega)))
    simp [hi, this]
theorem rest_xor (l : List UInt8) : ∀ r d, rest (r ^^^ d) l = rest r l ^^^ stk (8 * l.length) d := by
  induction l with
  | nil => intro r d; simp [rest, stk]
  | cons c l ih =>
    intro r d
    have e : (r ^^^ d) ^^^ c.toNat = (r ^^^ c.toNat) ^^^ d := by rw [Nat.xor_assoc, Nat.xor_comm d, ← Nat.xor_assoc]
    show rest (stk 8 ((r ^^^ d) ^^^ c.toNat)) l = rest (stk 8 (r ^^^ c.toNat)) l ^^^ _
    rw [e, stk_xor, ih, ← stk_add]
    congr 2

theorem sum_lt (l : List UInt8) : sum l < 4294967296 := by unfold sum; omega
theorem rest_sum (l : List UInt8) : rest 4294967295 l = 4294967295 ^^^ sum l := by
  have h := rest_lt (r := 4294967295) (by omega) l
  have h2 := not_xor h
  unfold sum
  rw [h2, Nat.xor_comm (rest 4294967295 l), ← Nat.xor_assoc, Nat.xor_self, Nat.zero_xor]
/-- The sum of two texts out of theirs. -/
theorem sum_append (a b : List UInt8) : sum (a ++ b) = stk (8 * b.length) (sum a) ^^^ sum b := by
  have hr := rest_lt (r := 4294967295) (by omega) (a ++ b)
  have hs := not_xor (rest_lt (r := 4294967295) (by omega) b)
  have e : rest 4294967295 (a ++ b) = rest 4294967295 b ^^^ stk (8 * b.length) (sum a) := by rw [rest_append, rest_sum, rest_xor]
  show 4294967295 - rest 4294967295 (a ++ b) = stk (8 * b.length) (sum a) ^^^ (4294967295 - rest 4294967295 b)
  rw [not_xor hr, e, hs, Nat.xor_comm (rest 4294967295 b), Nat.xor_assoc]

/-! ### Products -/
/-- The first k rounds of a product. -/
def mulk (a b : Nat) : Nat → Nat
  | 0 => 0
  | k + 1 => if b.testBit (31 - k) then mulk a b k ^^^ stk k a else mulk a b k
def mul (a b : Nat) : Nat := mulk a b 32
theorem mulk_zero (b k : Nat) : mulk 0 b k = 0 := by
  induction k with
  | zero => rfl
  | succ k ih => simp [mulk, ih, stk_zero]
theorem mulk_xor (a c b k : Nat) : mulk (a ^^^ c) b k = mulk a b k ^^^ mulk c b k := by
  induction k with
  | zero => simp [mulk]
  | succ k ih =>
    simp only [mulk]
    split
    · rw [ih, stk_xor]
      rw [Nat.xor_assoc, Nat.xor_assoc]
      congr 1
      rw [← Nat.xor_assoc, Nat.xor_comm (mulk c b k), Nat.xor_assoc]
    · exact ih
theorem mulk_lt (b k : Nat) {a : Nat} (h : a < 4294967296) : mulk a b k < 4294967296 := by
  induction k with
  | zero => simp [mulk]
  | succ k ih =>
    simp only [mulk]
    split
    · exact Nat.xor_lt_two_pow (n := 32) ih (stk_lt k h)
    · exact ih
theorem mul_lt (b : Nat) {a : Nat} (h : a < 4294967296) : mul a b < 4294967296 := mulk_lt b 32 h
theorem st_mulk (a b k : Nat) : mulk (st a) b k = st (mulk a b k) := by
  induction k with
  | zero => exact st_zero.symm
  | succ k ih =>
    have e : stk k (st a) = st (stk k a) := by
      have h1 : stk (k + 1) a = stk k (stk 1 a) := stk_add k 1 a
      exact h1.symm
    simp only [mulk]
    split
    · rw [ih, st_xor, e]
    · exact ih
theorem stk_mulk (j a b k : Nat) : mulk (stk j a) b k = stk j (mulk a b k) := by
  induction j with
  | zero => rfl
  | succ j ih => simp only [stk]; rw [st_mulk, ih]
/-- What is additive goes through a product. -/
theorem push (L : Nat → Nat) (h0 : L 0 = 0) (hx : ∀ a c, L (a ^^^ c) = L a ^^^ L c) (hs : ∀ j a, L (stk j a) = stk j (L a)) (a b k : Nat) : L (mulk a b k) = mulk (L a) b k := by
  induction k with
  | zero => exact h0
  | succ k ih =>
    simp only [mulk]
    split
    · rw [hx, ih, hs]
    · exact ih
def one : Nat := 2147483648
theorem stk_one : ∀ k, k ≤ 31 → stk k one = 2 ^ (31 - k) := by
  intro k
  induction k with
  | zero => intro _; rfl
  | succ k ih =>
    intro h
    have e : 31 - k = (31 - (k + 1)) + 1 := by omega
    simp only [stk]
    rw [ih (by omega), e, Nat.pow_succ]
    unfold st
    rw [if_neg (by omega)]
    omega
theorem mulk_one (b : Nat) : ∀ k, k ≤ 32 → ∀ i, (mulk one b k).testBit i = (b.testBit i && decide (32 - k ≤ i) && decide (i < 32)) := by
  intro k
  induction k with
  | zero =>
    intro _ i
    by_cases h : i < 32
    · simp [mulk, h]
    · simp [mulk, h]
  | succ k ih =>
    intro hk i
    simp only [mulk]
    by_cases hi : 31 - k = i
    · subst hi
      have d1 : decide (32 - k ≤ 31 - k) = false := decide_eq_false (by omega)
      have d2 : decide (32 - (k + 1) ≤ 31 - k) = true := decide_eq_true (by omega)
      have d3 : decide (31 - k < 32) = true := decide_eq_true (by omega)
      cases hb : b.testBit (31 - k) with
      | true => rw [if_pos rfl, Nat.testBit_xor, ih (by omega), stk_one k (by omega), Nat.testBit_two_pow, hb, d1, d2, d3]; simp
      | false => rw [if_neg (by simp), ih (by omega), hb]; simp
    · have d : decide (32 - (k + 1) ≤ i) = decide (32 - k ≤ i) := by rw [decide_eq_decide]; omega
      rw [d]
      split
      · rw [Nat.testBit_xor, ih (by omega), stk_one k (by omega), Nat.testBit_two_pow]
        simp [hi]
      · exact ih (by omega) i
theorem one_mul {b : Nat} (h : b < 4294967296) : mul one b = b := by
  apply Nat.eq_of_testBit_eq
  intro i
  unfold mul
  rw [mulk_one b 32 (Nat.le_refl _) i]
  by_cases hi : i < 32
  · simp [hi]
  · have : b.testBit i = false := Nat.testBit_lt_two_pow (Nat.lt_of_lt_of_le (show b < 2 ^ 32 by omega) (Nat.pow_le_pow_right (by omega) (by omega)))
    simp [this]
theorem mul_comm {a b : Nat} (ha : a < 4294967296) (hb : b < 4294967296) : mul a b = mul b a := by
  have h := push (fun x => mul x b) (mulk_zero b 32) (fun x y => mulk_xor x y b 32) (fun j x => stk_mulk j x b 32) one a 32
  have h1 : mulk one a 32 = a := one_mul ha
  have h2 : mul one b = b := one_mul hb
  simp only [h1, h2] at h
  exact h
/-- What k times eight bits multiply by. -/
theorem mul_stk {a : Nat} (ha : a < 4294967296) (k : Nat) : mul a (stk k one) = stk k a := by
  rw [mul_comm ha (stk_lt k (by unfold one; omega))]
  have h : mul (stk k one) a = stk k (mul one a) := stk_mulk k one a 32
  rw [h, one_mul ha]
theorem byte_one : stk 8 one = 8388608 := by decide
end Go.Proofs.Ytlfhldfclleclaa.Crc
