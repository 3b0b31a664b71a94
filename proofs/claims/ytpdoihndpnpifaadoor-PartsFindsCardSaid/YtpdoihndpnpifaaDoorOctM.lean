
/- Plain arithmetic for package octet: how many bits of a number are 1, powers of two, numbers with a sign. It says nothing of the program. No condition. -/

import Derived.WalkKit

import Derived.PlainAid

import Derived.Laws.BitsAllLaws

namespace Go.Proofs.YtpdoihndpnpifaaDoor.Oct

open Go.RowKit

/-- How many bits a number of n bytes has; 0 if there is no such size. -/
def wd (n : Int) : Int := if n = 8 then 64 else if n = 4 then 32 else if n = 2 then 16 else if n = 1 then 8 else 0

/-- A size is one of four, or none. -/
theorem size_cases (n : Int) : n = 1 ∨ n = 2 ∨ n = 4 ∨ n = 8 ∨ (n ≠ 1 ∧ n ≠ 2 ∧ n ≠ 4 ∧ n ≠ 8) := by omega
theorem wd_none {n : Int} (h : n ≠ 1 ∧ n ≠ 2 ∧ n ≠ 4 ∧ n ≠ 8) : wd n = 0 := by unfold wd; simp [h.1, h.2.1, h.2.2.1, h.2.2.2]

theorem ret_bool {a b : Bool} (h : a = b) : Ending.returned (.bool a) = .returned (.bool b) := by rw [h]
theorem ret_int {k : IntKind} {a b : Int} (h : a = b) : Ending.returned (.int k a) = .returned (.int k b) := by rw [h]

/-- Is there such a size? -/
def sizeB (n : Int) : Bool := n == 1 || n == 2 || n == 4 || n == 8
theorem sizeB_none {n : Int} (h : n ≠ 1 ∧ n ≠ 2 ∧ n ≠ 4 ∧ n ≠ 8) : sizeB n = false := by
  obtain ⟨h1, h2, h4, h8⟩ := h
  unfold sizeB; simp [h1, h2, h4, h8]

/-- Does a number fit? -/
def fitB (v : Nat) (n : Int) : Bool := (n == 1 && decide (v < 256)) || (n == 2 && decide (v < 65536)) || (n == 4 && decide (v < 4294967296)) || n == 8
theorem fitB_none (v : Nat) {n : Int} (h : n ≠ 1 ∧ n ≠ 2 ∧ n ≠ 4 ∧ n ≠ 8) : fitB v n = false := by
  obtain ⟨h1, h2, h4, h8⟩ := h
  unfold fitB; simp [h1, h2, h4, h8]
theorem fitB_1 (v : Nat) : fitB v 1 = decide (v < 256) := by unfold fitB; simp
theorem fitB_2 (v : Nat) : fitB v 2 = decide (v < 65536) := by unfold fitB; simp
theorem fitB_4 (v : Nat) : fitB v 4 = decide (v < 4294967296) := by unfold fitB; simp
theorem fitB_8 (v : Nat) : fitB v 8 = true := by unfold fitB; simp

theorem fit_1 (v : Nat) : ((v : Int) / 256 == 0) = fitB v 1 := by rw [fitB_1, Bool.eq_iff_iff]; simp; omega
theorem fit_2 (v : Nat) : ((v : Int) / 65536 == 0) = fitB v 2 := by rw [fitB_2, Bool.eq_iff_iff]; simp; omega
theorem fit_4 (v : Nat) : ((v : Int) / 4294967296 == 0) = fitB v 4 := by rw [fitB_4, Bool.eq_iff_iff]; simp; omega
theorem rfit_1 (v : Nat) : decide ((v : Int) < 256) = fitB v 1 := by rw [fitB_1, Bool.eq_iff_iff]; simp; omega
theorem rfit_2 (v : Nat) : decide ((v : Int) < 65536) = fitB v 2 := by rw [fitB_2, Bool.eq_iff_iff]; simp; omega
theorem rfit_4 (v : Nat) : decide ((v : Int) < 4294967296) = fitB v 4 := by rw [fitB_4, Bool.eq_iff_iff]; simp; omega

/-! ### Bits that are 1 -/

def pc (v : Nat) : Nat := if h : v = 0 then 0 else v % 2 + pc (v / 2)
termination_by v
decreasing_by omega
theorem pc_zero : pc 0 = 0 := by unfold pc; simp
theorem pc_step (v : Nat) : pc v = v % 2 + pc (v / 2) := by
  by_cases h : v = 0
  · subst h; simp [pc_zero]
  · rw [pc]; simp [h]
theorem pc_le (k : Nat) : ∀ v, v < 2 ^ k → pc v ≤ k := by
  induction k with
  | zero => intro v h; have : v = 0 := by simpa using h
            subst this; simp [pc_zero]
  | succ k ih =>
    intro v h
    rw [pc_step]
    have := ih (v / 2) (by rw [Nat.pow_succ] at h; omega)
    omega
theorem pc_le64 {v : Nat} (h : v < 18446744073709551616) : pc v ≤ 64 := pc_le 64 v h
theorem and_even (a b : Nat) : (2 * a) &&& (2 * b + 1) = 2 * (a &&& b) := by
  apply Nat.eq_of_testBit_eq
  intro i
  cases i with
  | zero => simp
  | succ i =>
    rw [Nat.testBit_succ, Nat.testBit_succ, Nat.and_div_two]
    have e1 : (2 * b + 1) / 2 = b := by omega
    have e2 : 2 * a / 2 = a := by omega
    have e3 : 2 * (a &&& b) / 2 = a &&& b := by omega
    rw [e1, e2, e3]
theorem and_odd (a b : Nat) : (2 * a + 1) &&& (2 * b) = 2 * (a &&& b) := by rw [Nat.and_comm, and_even, Nat.and_comm]
theorem pc_drop : ∀ v : Nat, v ≠ 0 → pc (v &&& (v - 1)) + 1 = pc v := by
  intro v
  induction v using Nat.strongRecOn with
  | _ v ih =>
    intro h
    rcases Nat.mod_two_eq_zero_or_one v with he | ho
    · obtain ⟨k, rfl⟩ : ∃ k, v = 2 * k := ⟨v / 2, by omega⟩
      have hk : k ≠ 0 := by omega
      have e : 2 * k - 1 = 2 * (k - 1) + 1 := by omega
      rw [e, and_even, pc_step (2 * (k &&& (k - 1))), pc_step (2 * k)]
      have e1 : 2 * (k &&& (k - 1)) % 2 = 0 := by omega
      have e2 : 2 * (k &&& (k - 1)) / 2 = k &&& (k - 1) := by omega
      have e3 : 2 * k % 2 = 0 := by omega
      have e4 : 2 * k / 2 = k := by omega
      rw [e1, e2, e3, e4]
      have := ih k (by omega) hk
      omega
    · obtain ⟨k, rfl⟩ : ∃ k, v = 2 * k + 1 := ⟨v / 2, by omega⟩
      have e : 2 * k + 1 - 1 = 2 * k := by omega
      rw [e, and_odd, Nat.and_self, pc_step (2 * k), pc_step (2 * k + 1)]
      have e1 : 2 * k % 2 = 0 := by omega
      have e2 : 2 * k / 2 = k := by omega
      have e3 : (2 * k + 1) % 2 = 1 := by omega
      have e4 : (2 * k + 1) / 2 = k := by omega
      rw [e1, e2, e3, e4]
      omega
theorem and_pred_lt {v : Nat} (h : v ≠ 0) : v &&& (v - 1) < v := by
  have := @Nat.and_le_right v (v - 1)
  omega
theorem and_pred_run (v : Nat) (h : v ≠ 0) (hv : v < 18446744073709551616) : bits .and .u64 (v : Int) ((v : Int) - 1) = ((v &&& (v - 1) : Nat) : Int) := by
  have e : (v : Int) - 1 = ((v - 1 : Nat) : Int) := by omega
  rw [e]
  exact u64_and_nat v (v - 1) hv (by omega)
theorem and_one_run (v : Nat) (hv : v < 18446744073709551616) : bits .and .u64 (v : Int) 1 = ((v % 2 : Nat) : Int) := by
  have := u64_and_nat v 1 hv (by omega)
  rw [nat_mask1] at this
  simpa using this

/-! ### With a sign -/

/-- The lowest n bytes of v as a number that may be below 0. -/
def sg (v : Nat) (n : Int) : Int :=
  if n = 1 then (if v % 256 < 128 then (v % 256 : Nat) else ((v % 256 : Nat) : Int) - 256)
  else if n = 2 then (if v % 65536 < 32768 then (v % 65536 : Nat) else ((v % 65536 : Nat) : Int) - 65536)
  else if n = 4 then (if v % 4294967296 < 2147483648 then (v % 4294967296 : Nat) else ((v % 4294967296 : Nat) : Int) - 4294967296)
  else if n = 8 then (if v < 9223372036854775808 then (v : Int) else (v : Int) - 18446744073709551616)
  else 0
theorem sg_none (v : Nat) {n : Int} (h : n ≠ 1 ∧ n ≠ 2 ∧ n ≠ 4 ∧ n ≠ 8) : sg v n = 0 := by
  obtain ⟨h1, h2, h4, h8⟩ := h
  unfold sg; simp [h1, h2, h4, h8]
theorem shl_1 (v : Nat) : wrap64 (IntKind.u64.wrap ((v : Int) * 72057594037927936)) / 72057594037927936 = sg v 1 := by
  rw [← PlainAid.i64_is, IntKind.wrap_i64, IntKind.wrap_u64]; unfold sg; simp only [if_true]; split <;> omega
theorem shl_2 (v : Nat) : wrap64 (IntKind.u64.wrap ((v : Int) * 281474976710656)) / 281474976710656 = sg v 2 := by
  rw [← PlainAid.i64_is, IntKind.wrap_i64, IntKind.wrap_u64]; unfold sg; simp only [if_true]; rw [if_neg (by decide)]; split <;> omega
theorem shl_4 (v : Nat) : wrap64 (IntKind.u64.wrap ((v : Int) * 4294967296)) / 4294967296 = sg v 4 := by
  rw [← PlainAid.i64_is, IntKind.wrap_i64, IntKind.wrap_u64]; unfold sg; simp only [if_true]; rw [if_neg (by decide), if_neg (by decide)]; split <;> omega
theorem shl_8 (v : Nat) (hv : v < 18446744073709551616) : wrap64 (v : Int) = sg v 8 := by
  rw [← PlainAid.i64_is, IntKind.wrap_i64]; unfold sg; simp only [if_true]; rw [if_neg (by decide), if_neg (by decide), if_neg (by decide)]; split <;> omega
theorem sg_lo1 (v : Nat) (h : (v : Int) % 256 < 128) : (v : Int) % 256 = sg v 1 := by
  unfold sg; simp only [if_true]; rw [if_pos (by omega)]; omega
theorem sg_hi1 (v : Nat) (h : 128 ≤ (v : Int) % 256) : (v : Int) % 256 - 256 = sg v 1 := by
  unfold sg; simp only [if_true]; rw [if_neg (by omega)]; omega
theorem sg_lo2 (v : Nat) (h : (v : Int) % 65536 < 32768) : (v : Int) % 65536 = sg v 2 := by
  unfold sg; simp only [if_true]; rw [if_neg (by decide)]; rw [if_pos (by omega)]; omega
theorem sg_hi2 (v : Nat) (h : 32768 ≤ (v : Int) % 65536) : (v : Int) % 65536 - 65536 = sg v 2 := by
  unfold sg; simp only [if_true]; rw [if_neg (by decide)]; rw [if_neg (by omega)]; omega
theorem sg_lo4 (v : Nat) (h : (v : Int) % 4294967296 < 2147483648) : (v : Int) % 4294967296 = sg v 4 := by
  unfold sg; simp only [if_true]; rw [if_neg (by decide), if_neg (by decide)]; rw [if_pos (by omega)]; omega
theorem sg_hi4 (v : Nat) (h : 2147483648 ≤ (v : Int) % 4294967296) : (v : Int) % 4294967296 - 4294967296 = sg v 4 := by
  unfold sg; simp only [if_true]; rw [if_neg (by decide), if_neg (by decide)]; rw [if_neg (by omega)]; omega
end Go.Proofs.YtpdoihndpnpifaaDoor.Oct
