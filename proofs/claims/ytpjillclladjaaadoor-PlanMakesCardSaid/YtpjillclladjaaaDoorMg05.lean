/- That faults stay what they are where their wraps' blocks stay as they are. It says nothing of what the program does. No condition. Plain arithmetic for package octet: how many bits of a number are 1, powers of two, numbers with a sign. It says nothing of the program. No condition. Plain arithmetic for package octet: a number as bytes, the highest first, and bytes as a number. It says nothing of the program. No condition. -/
import Derived.Test.YtpjillclladjaaaDoorMg03
import Derived.Laws.StructEq
import Derived.WalkKit
import Derived.PlainAid
import Derived.Laws.BitsAllLaws
import Derived.Laws.BytesArg
namespace Go.Proofs.YtpjillclladjaaaDoor.Flt

open Go.RowKit Go.PlainAid

/-- The wraps' blocks are as they were. -/
def KeptW (w w' : World) : Prop := ∀ (g : Nat) (cs : Array Value), w.heap[g]? = some (.cells cs 79 (0, 0)) → w'.heap[g]? = w.heap[g]?
theorem KeptW.trans {a b c : World} (h : KeptW a b) (k : KeptW b c) : KeptW a c := fun g cs hg => (k g cs ((h g cs hg).trans hg)).trans (h g cs hg)
theorem KeptW.below {w w' : World} (b : Below w.heap.size w w') : KeptW w w' := fun g _ hg => b.block g (lt_of_block hg)
theorem IsFault.only {w w' : World} (b : KeptW w w') : ∀ {ws : List (Bool × Int)} {x : Value} {k : Int}, IsFault w x ws k → IsFault w' x ws k
  | [], _, _, h => h
  | (_, _) :: _, _, _, ⟨g, y, e, hg, hy⟩ => ⟨g, y, e, (b g _ hg).trans hg, hy.only b⟩
theorem eq_flt (a b c : Int) (w : World) : (Op.equalIn 10000 40 (.agg #[.int .i64 a, .int .i64 b, .int .i64 c]) (.agg #[.int .i64 a, .int .i64 b, .int .i64 c])).run Tryd.prog w = .ok true w := by
  have hS : Tryd.prog.underlying 40 = some (.struct (Tryd.prog.fieldsOf 40)) := by kernel_rfl
  rw [show (10000 : Nat) = 9999 + 1 from rfl, run_equalIn_agg w 9999 40 _ _ hS (by kernel_rfl)]
  simp only [Program.fieldsOf, Tryd.underlying40]
  go_simp
end Go.Proofs.YtpjillclladjaaaDoor.Flt
namespace Go.Proofs.YtpjillclladjaaaDoor.Oct

open Go.RowKit

/-- How many bits a number of n bytes has; 0 if there is no such size. -/
def wd (n : Int) : Int := if n = 8 then 64 else if n = 4 then 32 else if n = 2 then 16 else if n = 1 then 8 else 0

/-- A size is one of four, or none. -/
theorem size_cases (n : Int) : n = 1 ∨ n = 2 ∨ n = 4 ∨ n = 8 ∨ (n ≠ 1 ∧ n ≠ 2 ∧ n ≠ 4 ∧ n ≠ 8) := by omega
theorem wd_none {n : Int} (h : n ≠ 1 ∧ n ≠ 2 ∧ n ≠ 4 ∧ n ≠ 8) : wd n = 0 := by unfold wd; simp [h.1, h.2.1, h.2.2.1, h.2.2.2]

theorem ret_bool {a b : Bool} (h : a = b) : Ending.returned (.bool a) = .returned (.bool b) := by rw [h]
theorem ret_int {k : IntKind} {a b : Int} (h : a = b) : Ending.returned (.int k a) = .returned (.int k b) := by rw [h]

/-- Is there such a size? -/
def sizeB (n : Int) : Bool := n == 1 || n == 2 || n == 4 || n == 8
theorem sizeB_none {n : Int} (h : n ≠ 1 ∧ n ≠ 2 ∧ n ≠ 4 ∧ n ≠ 8) : sizeB n = false := by
  obtain ⟨h1, h2, h4, h8⟩ := h
  unfold sizeB; simp [h1, h2, h4, h8]

/-- Does a number fit? -/
def fitB (v : Nat) (n : Int) : Bool := (n == 1 && decide (v < 256)) || (n == 2 && decide (v < 65536)) || (n == 4 && decide (v < 4294967296)) || n == 8
theorem fitB_none (v : Nat) {n : Int} (h : n ≠ 1 ∧ n ≠ 2 ∧ n ≠ 4 ∧ n ≠ 8) : fitB v n = false := by
  obtain ⟨h1, h2, h4, h8⟩ := h
  unfold fitB; simp [h1, h2, h4, h8]
theorem fitB_1 (v : Nat) : fitB v 1 = decide (v < 256) := by unfold fitB; simp
theorem fitB_2 (v : Nat) : fitB v 2 = decide (v < 65536) := by unfold fitB; simp
theorem fitB_4 (v : Nat) : fitB v 4 = decide (v < 4294967296) := by unfold fitB; simp
theorem fitB_8 (v : Nat) : fitB v 8 = true := by unfold fitB; simp

theorem fit_1 (v : Nat) : ((v : Int) / 256 == 0) = fitB v 1 := by rw [fitB_1, Bool.eq_iff_iff]; simp; omega
theorem fit_2 (v : Nat) : ((v : Int) / 65536 == 0) = fitB v 2 := by rw [fitB_2, Bool.eq_iff_iff]; simp; omega
theorem fit_4 (v : Nat) : ((v : Int) / 4294967296 == 0) = fitB v 4 := by rw [fitB_4, Bool.eq_iff_iff]; simp; omega
theorem rfit_1 (v : Nat) : decide ((v : Int) < 256) = fitB v 1 := by rw [fitB_1, Bool.eq_iff_iff]; simp; omega
theorem rfit_2 (v : Nat) : decide ((v : Int) < 65536) = fitB v 2 := by rw [fitB_2, Bool.eq_iff_iff]; simp; omega
theorem rfit_4 (v : Nat) : decide ((v : Int) < 4294967296) = fitB v 4 := by rw [fitB_4, Bool.eq_iff_iff]; simp; omega

/-! ### Bits that are 1 -/

def pc (v : Nat) : Nat := if h : v = 0 then 0 else v % 2 + pc (v / 2)
termination_by v
decreasing_by omega
theorem pc_zero : pc 0 = 0 := by unfold pc; simp
theorem pc_step (v : Nat) : pc v = v % 2 + pc (v / 2) := by
  by_cases h : v = 0
  · subst h; simp [pc_zero]
  · rw [pc]; simp [h]
theorem pc_le (k : Nat) : ∀ v, v < 2 ^ k → pc v ≤ k := by
  induction k with
  | zero => intro v h; have : v = 0 := by simpa using h
            subst this; simp [pc_zero]
  | succ k ih =>
    intro v h
    rw [pc_step]
    have := ih (v / 2) (by rw [Nat.pow_succ] at h; omega)
    omega
theorem pc_le64 {v : Nat} (h : v < 18446744073709551616) : pc v ≤ 64 := pc_le 64 v h
theorem and_even (a b : Nat) : (2 * a) &&& (2 * b + 1) = 2 * (a &&& b) := by
  apply Nat.eq_of_testBit_eq
  intro i
  cases i with
  | zero => simp
  | succ i =>
    rw [Nat.testBit_succ, Nat.testBit_succ, Nat.and_div_two]
    have e1 : (2 * b + 1) / 2 = b := by omega
    have e2 : 2 * a / 2 = a := by omega
    have e3 : 2 * (a &&& b) / 2 = a &&& b := by omega
    rw [e1, e2, e3]
theorem and_odd (a b : Nat) : (2 * a + 1) &&& (2 * b) = 2 * (a &&& b) := by rw [Nat.and_comm, and_even, Nat.and_comm]
theorem pc_drop : ∀ v : Nat, v ≠ 0 → pc (v &&& (v - 1)) + 1 = pc v := by
  intro v
  induction v using Nat.strongRecOn with
  | _ v ih =>
    intro h
    rcases Nat.mod_two_eq_zero_or_one v with he | ho
    · obtain ⟨k, rfl⟩ : ∃ k, v = 2 * k := ⟨v / 2, by omega⟩
      have hk : k ≠ 0 := by omega
      have e : 2 * k - 1 = 2 * (k - 1) + 1 := by omega
      rw [e, and_even, pc_step (2 * (k &&& (k - 1))), pc_step (2 * k)]
      have e1 : 2 * (k &&& (k - 1)) % 2 = 0 := by omega
      have e2 : 2 * (k &&& (k - 1)) / 2 = k &&& (k - 1) := by omega
      have e3 : 2 * k % 2 = 0 := by omega
      have e4 : 2 * k / 2 = k := by omega
      rw [e1, e2, e3, e4]
      have := ih k (by omega) hk
      omega
    · obtain ⟨k, rfl⟩ : ∃ k, v = 2 * k + 1 := ⟨v / 2, by omega⟩
      have e : 2 * k + 1 - 1 = 2 * k := by omega
      rw [e, and_odd, Nat.and_self, pc_step (2 * k), pc_step (2 * k + 1)]
      have e1 : 2 * k % 2 = 0 := by omega
      have e2 : 2 * k / 2 = k := by omega
      have e3 : (2 * k + 1) % 2 = 1 := by omega
      have e4 : (2 * k + 1) / 2 = k := by omega
      rw [e1, e2, e3, e4]
      omega
theorem and_pred_lt {v : Nat} (h : v ≠ 0) : v &&& (v - 1) < v := by
  have := @Nat.and_le_right v (v - 1)
  omega
theorem and_pred_run (v : Nat) (h : v ≠ 0) (hv : v < 18446744073709551616) : bits .and .u64 (v : Int) ((v : Int) - 1) = ((v &&& (v - 1) : Nat) : Int) := by
  have e : (v : Int) - 1 = ((v - 1 : Nat) : Int) := by omega
  rw [e]
  exact u64_and_nat v (v - 1) hv (by omega)
theorem and_one_run (v : Nat) (hv : v < 18446744073709551616) : bits .and .u64 (v : Int) 1 = ((v % 2 : Nat) : Int) := by
  have := u64_and_nat v 1 hv (by omega)
  rw [nat_mask1] at this
  simpa using this

/-! ### With a sign -/

/-- The lowest n bytes of v as a number that may be below 0. -/
def sg (v : Nat) (n : Int) : Int :=
  if n = 1 then (if v % 256 < 128 then (v % 256 : Nat) else ((v % 256 : Nat) : Int) - 256)
  else if n = 2 then (if v % 65536 < 32768 then (v % 65536 : Nat) else ((v % 65536 : Nat) : Int) - 65536)
  else if n = 4 then (if v % 4294967296 < 2147483648 then (v % 4294967296 : Nat) else ((v % 4294967296 : Nat) : Int) - 4294967296)
  else if n = 8 then (if v < 9223372036854775808 then (v : Int) else (v : Int) - 18446744073709551616)
  else 0
theorem sg_none (v : Nat) {n : Int} (h : n ≠ 1 ∧ n ≠ 2 ∧ n ≠ 4 ∧ n ≠ 8) : sg v n = 0 := by
  obtain ⟨h1, h2, h4, h8⟩ := h
  unfold sg; simp [h1, h2, h4, h8]
theorem shl_1 (v : Nat) : wrap64 (IntKind.u64.wrap ((v : Int) * 72057594037927936)) / 72057594037927936 = sg v 1 := by
  rw [← PlainAid.i64_is, IntKind.wrap_i64, IntKind.wrap_u64]; unfold sg; simp only [if_true]; split <;> omega
theorem shl_2 (v : Nat) : wrap64 (IntKind.u64.wrap ((v : Int) * 281474976710656)) / 281474976710656 = sg v 2 := by
  rw [← PlainAid.i64_is, IntKind.wrap_i64, IntKind.wrap_u64]; unfold sg; simp only [if_true]; rw [if_neg (by decide)]; split <;> omega
theorem shl_4 (v : Nat) : wrap64 (IntKind.u64.wrap ((v : Int) * 4294967296)) / 4294967296 = sg v 4 := by
  rw [← PlainAid.i64_is, IntKind.wrap_i64, IntKind.wrap_u64]; unfold sg; simp only [if_true]; rw [if_neg (by decide), if_neg (by decide)]; split <;> omega
theorem shl_8 (v : Nat) (hv : v < 18446744073709551616) : wrap64 (v : Int) = sg v 8 := by
  rw [← PlainAid.i64_is, IntKind.wrap_i64]; unfold sg; simp only [if_true]; rw [if_neg (by decide), if_neg (by decide), if_neg (by decide)]; split <;> omega
theorem sg_lo1 (v : Nat) (h : (v : Int) % 256 < 128) : (v : Int) % 256 = sg v 1 := by
  unfold sg; simp only [if_true]; rw [if_pos (by omega)]; omega
theorem sg_hi1 (v : Nat) (h : 128 ≤ (v : Int) % 256) : (v : Int) % 256 - 256 = sg v 1 := by
  unfold sg; simp only [if_true]; rw [if_neg (by omega)]; omega
theorem sg_lo2 (v : Nat) (h : (v : Int) % 65536 < 32768) : (v : Int) % 65536 = sg v 2 := by
  unfold sg; simp only [if_true]; rw [if_neg (by decide)]; rw [if_pos (by omega)]; omega
theorem sg_hi2 (v : Nat) (h : 32768 ≤ (v : Int) % 65536) : (v : Int) % 65536 - 65536 = sg v 2 := by
  unfold sg; simp only [if_true]; rw [if_neg (by decide)]; rw [if_neg (by omega)]; omega
theorem sg_lo4 (v : Nat) (h : (v : Int) % 4294967296 < 2147483648) : (v : Int) % 4294967296 = sg v 4 := by
  unfold sg; simp only [if_true]; rw [if_neg (by decide), if_neg (by decide)]; rw [if_pos (by omega)]; omega
theorem sg_hi4 (v : Nat) (h : 2147483648 ≤ (v : Int) % 4294967296) : (v : Int) % 4294967296 - 4294967296 = sg v 4 := by
  unfold sg; simp only [if_true]; rw [if_neg (by decide), if_neg (by decide)]; rw [if_neg (by omega)]; omega
end Go.Proofs.YtpjillclladjaaaDoor.Oct

namespace Go.Proofs.YtpjillclladjaaaDoor.Oct

open Go.RowKit Go.PlainAid

/-! ### A number out of a string's bytes -/

/-- The number of the k bytes of s from place p on. -/
def getN (s : ByteArray) (p : Nat) : Nat → Nat
  | 0 => 0
  | k + 1 => 256 * getN s p k + (bt s (p + k)).toNat
theorem bt_toNat_le (s : ByteArray) (k : Nat) : (bt s k).toNat ≤ 255 := by have := bt_le s k; omega
theorem getN_lt (s : ByteArray) (p k : Nat) : getN s p k < 256 ^ k := by
  induction k with
  | zero => simp [getN]
  | succ k ih =>
    have := bt_toNat_le s (p + k)
    rw [getN, Nat.pow_succ]; omega
theorem getN_lt7 (s : ByteArray) (p k : Nat) (h : k < 8) : getN s p k < 72057594037927936 :=
  Nat.lt_of_lt_of_le (getN_lt s p k) (Nat.pow_le_pow_right (by omega) (show k ≤ 7 by omega))
theorem getN_lt8 (s : ByteArray) (p k : Nat) (h : k ≤ 8) : getN s p k < 18446744073709551616 :=
  Nat.lt_of_lt_of_le (getN_lt s p k) (Nat.pow_le_pow_right (by omega) h)
theorem join_run (v b : Nat) (hv : v < 72057594037927936) (hb : b < 256) : bits .or .u64 ((v : Int) * 256) (b : Int) = ((256 * v + b : Nat) : Int) := by
  have e : (v : Int) * 256 = ((256 * v : Nat) : Int) := by omega
  rw [e, u64_or_nat (256 * v) b (by omega) (by omega), nat_join 8 (256 * v) b (by omega) (by simpa using hb)]

/-! ### A number as bytes -/

/-- The lowest k bytes of v, the highest first. -/
def low (v : Nat) : Nat → List Int
  | 0 => []
  | k + 1 => ((v / 256 ^ k % 256 : Nat) : Int) :: low v k
/-- The first k of the n bytes of v. -/
def front (v n : Nat) : Nat → List Int
  | 0 => []
  | k + 1 => front v n k ++ [((v / 256 ^ (n - 1 - k) % 256 : Nat) : Int)]
theorem low_length (v k : Nat) : (low v k).length = k := by induction k with
  | zero => rfl
  | succ k ih => simp [low, ih]
theorem front_length (v n k : Nat) : (front v n k).length = k := by induction k with
  | zero => rfl
  | succ k ih => simp [front, ih]
theorem front_low (v n : Nat) : ∀ k, k ≤ n → front v n k ++ low v (n - k) = low v n := by
  intro k
  induction k with
  | zero => intro _; simp [front]
  | succ k ih =>
    intro h
    have e : n - k = (n - (k + 1)) + 1 := by omega
    have e2 : n - 1 - k = n - (k + 1) := by omega
    rw [← ih (by omega), front, e, low, e2]
    simp
theorem front_all (v n : Nat) : front v n n = low v n := by
  have := front_low v n n (Nat.le_refl n)
  simpa [low] using this
theorem low_range (v k : Nat) : ∀ x ∈ low v k, 0 ≤ x ∧ x ≤ 255 := by
  induction k with
  | zero => simp [low]
  | succ k ih =>
    intro x hx
    simp only [low, List.mem_cons] at hx
    rcases hx with rfl | hx
    · omega
    · exact ih x hx

/-! ### Strings of bytes -/

theorem bt_strOf (xs : List Int) (k : Nat) (h : k < xs.length) (hx : ∀ x ∈ xs, 0 ≤ x ∧ x ≤ 255) : bt (strOfNums xs) k = xs[k] := by
  have hs : k < (strOfNums xs).size := by rw [strOfNums_size]; exact h
  unfold bt
  rw [dif_pos hs]
  have hb := hx xs[k] (List.getElem_mem h)
  have e : (strOfNums xs)[k]'hs = UInt8.ofNat (xs[k]).toNat := by
    show (strOfNums xs).data[k] = _
    simp [strOfNums]
  rw [e]
  simp
  omega
theorem strOf_append (a b : List Int) : strOfNums (a ++ b) = strOfNums a ++ strOfNums b := by
  apply ByteArray.ext
  simp [strOfNums]

/-- What is put behind bytes is got again. -/
theorem getN_low (xs : List Int) (v n : Nat) (hx : ∀ x ∈ xs, 0 ≤ x ∧ x ≤ 255) : getN (strOfNums (xs ++ low v n)) xs.length n = v % 256 ^ n := by
  have key : ∀ k, k ≤ n → getN (strOfNums (xs ++ low v n)) xs.length k = v / 256 ^ (n - k) % 256 ^ k := by
    intro k
    induction k with
    | zero => intro _; simp [getN, Nat.mod_one]
    | succ k ih =>
      intro h
      have hall : ∀ x ∈ xs ++ low v n, 0 ≤ x ∧ x ≤ 255 := by
        intro x hxx
        rcases List.mem_append.1 hxx with h1 | h1
        · exact hx x h1
        · exact low_range v n x h1
      have hl : xs.length + k < (xs ++ low v n).length := by simp [low_length]; omega
      have hb := bt_strOf (xs ++ low v n) (xs.length + k) hl hall
      have he : (xs ++ low v n)[xs.length + k] = ((v / 256 ^ (n - (k + 1)) % 256 : Nat) : Int) := by
        have hfl := front_low v n (k + 1) h
        have hk1 : k < (low v n).length := by rw [low_length]; omega
        have e1 : (xs ++ low v n)[xs.length + k] = (low v n)[k] := by simp
        rw [e1]
        have hk2 : k < (front v n (k + 1) ++ low v (n - (k + 1))).length := by rw [hfl]; exact hk1
        have e2 : (low v n)[k] = (front v n (k + 1) ++ low v (n - (k + 1)))[k]'hk2 := by simp only [hfl]
        rw [e2]
        have hk3 : k < (front v n (k + 1)).length := by rw [front_length]; omega
        rw [List.getElem_append_left hk3]
        have e3 : n - 1 - k = n - (k + 1) := by omega
        simp only [front, e3]
        have hk4 : (front v n k).length ≤ k := by rw [front_length]; exact Nat.le_refl k
        rw [List.getElem_append_right hk4]
        simp [front_length]
      rw [getN, ih (by omega), hb, he]
      have e4 : n - k = (n - (k + 1)) + 1 := by omega
      rw [e4, Nat.pow_succ, ← Nat.div_div_eq_div_mul]
      generalize v / 256 ^ (n - (k + 1)) = q
      have e5 : ((q % 256 : Nat) : Int).toNat = q % 256 := by omega
      rw [e5, Nat.pow_succ, Nat.mul_comm (256 ^ k) 256, Nat.mod_mul]
      omega
  have := key n (Nat.le_refl n)
  simpa using this
theorem fit_lt {v : Nat} {n : Nat} (h : fitB v n = true) (hv : v ≤ 18446744073709551615) : v < 256 ^ n := by
  unfold fitB at h
  simp at h
  rcases h with ((⟨h1, h2⟩ | ⟨h1, h2⟩) | ⟨h1, h2⟩) | h1
  · obtain rfl : n = 1 := by omega
    omega
  · obtain rfl : n = 2 := by omega
    omega
  · obtain rfl : n = 4 := by omega
    omega
  · obtain rfl : n = 8 := by omega
    omega
theorem fit_size {v : Nat} {n : Int} (h : fitB v n = true) : sizeB n = true := by
  rcases size_cases n with rfl | rfl | rfl | rfl | h'
  · rfl
  · rfl
  · rfl
  · rfl
  · rw [fitB_none v h'] at h; cases h
theorem size_nat {n : Int} (h : sizeB n = true) : ∃ k : Nat, n = (k : Int) ∧ 1 ≤ k ∧ k ≤ 8 ∧ wd n = 8 * (k : Int) := by
  rcases size_cases n with rfl | rfl | rfl | rfl | h'
  · exact ⟨1, rfl, by omega, by omega, rfl⟩
  · exact ⟨2, rfl, by omega, by omega, rfl⟩
  · exact ⟨4, rfl, by omega, by omega, rfl⟩
  · exact ⟨8, rfl, by omega, by omega, rfl⟩
  · rw [sizeB_none h'] at h; cases h
theorem size_no {n : Int} (h : sizeB n = false) : wd n = 0 := by
  rcases size_cases n with rfl | rfl | rfl | rfl | h'
  · cases h
  · cases h
  · cases h
  · cases h
  · exact wd_none h'
theorem fit_no {n : Int} (v : Nat) (h : sizeB n = false) : fitB v n = false := by
  cases hf : fitB v n with
  | false => rfl
  | true => rw [fit_size hf] at h; cases h
end Go.Proofs.YtpjillclladjaaaDoor.Oct
