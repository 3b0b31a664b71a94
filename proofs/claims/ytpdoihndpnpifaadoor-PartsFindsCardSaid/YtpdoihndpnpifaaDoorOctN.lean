
/- Plain arithmetic for package octet: a number as bytes, the highest first, and bytes as a number. It says nothing of the program. No condition. -/

import Derived.Test.YtpdoihndpnpifaaDoorOctM

import Derived.Laws.BytesArg

namespace Go.Proofs.YtpdoihndpnpifaaDoor.Oct

open Go.RowKit Go.PlainAid

/-! ### A number out of a string's bytes -/

/-- The number of the k bytes of s from place p on. -/
def getN (s : ByteArray) (p : Nat) : Nat → Nat
  | 0 => 0
  | k + 1 => 256 * getN s p k + (bt s (p + k)).toNat
theorem bt_toNat_le (s : ByteArray) (k : Nat) : (bt s k).toNat ≤ 255 := by have := bt_le s k; omega
theorem getN_lt (s : ByteArray) (p k : Nat) : getN s p k < 256 ^ k := by
  induction k with
  | zero => simp [getN]
  | succ k ih =>
    have := bt_toNat_le s (p + k)
    rw [getN, Nat.pow_succ]; omega
theorem getN_lt7 (s : ByteArray) (p k : Nat) (h : k < 8) : getN s p k < 72057594037927936 :=
  Nat.lt_of_lt_of_le (getN_lt s p k) (Nat.pow_le_pow_right (by omega) (show k ≤ 7 by omega))
theorem getN_lt8 (s : ByteArray) (p k : Nat) (h : k ≤ 8) : getN s p k < 18446744073709551616 :=
  Nat.lt_of_lt_of_le (getN_lt s p k) (Nat.pow_le_pow_right (by omega) h)
theorem join_run (v b : Nat) (hv : v < 72057594037927936) (hb : b < 256) : bits .or .u64 ((v : Int) * 256) (b : Int) = ((256 * v + b : Nat) : Int) := by
  have e : (v : Int) * 256 = ((256 * v : Nat) : Int) := by omega
  rw [e, u64_or_nat (256 * v) b (by omega) (by omega), nat_join 8 (256 * v) b (by omega) (by simpa using hb)]

/-! ### A number as bytes -/

/-- The lowest k bytes of v, the highest first. -/
def low (v : Nat) : Nat → List Int
  | 0 => []
  | k + 1 => ((v / 256 ^ k % 256 : Nat) : Int) :: low v k
/-- The first k of the n bytes of v. -/
def front (v n : Nat) : Nat → List Int
  | 0 => []
  | k + 1 => front v n k ++ [((v / 256 ^ (n - 1 - k) % 256 : Nat) : Int)]
theorem low_length (v k : Nat) : (low v k).length = k := by induction k with
  | zero => rfl
  | succ k ih => simp [low, ih]
theorem front_length (v n k : Nat) : (front v n k).length = k := by induction k with
  | zero => rfl
  | succ k ih => simp [front, ih]
theorem front_low (v n : Nat) : ∀ k, k ≤ n → front v n k ++ low v (n - k) = low v n := by
  intro k
  induction k with
  | zero => intro _; simp [front]
  | succ k ih =>
    intro h
    have e : n - k = (n - (k + 1)) + 1 := by omega
    have e2 : n - 1 - k = n - (k + 1) := by omega
    rw [← ih (by omega), front, e, low, e2]
    simp
theorem front_all (v n : Nat) : front v n n = low v n := by
  have := front_low v n n (Nat.le_refl n)
  simpa [low] using this
theorem low_range (v k : Nat) : ∀ x ∈ low v k, 0 ≤ x ∧ x ≤ 255 := by
  induction k with
  | zero => simp [low]
  | succ k ih =>
    intro x hx
    simp only [low, List.mem_cons] at hx
    rcases hx with rfl | hx
    · omega
    · exact ih x hx

/-! ### Strings of bytes -/

theorem bt_strOf (xs : List Int) (k : Nat) (h : k < xs.length) (hx : ∀ x ∈ xs, 0 ≤ x ∧ x ≤ 255) : bt (strOfNums xs) k = xs[k] := by
  have hs : k < (strOfNums xs).size := by rw [strOfNums_size]; exact h
  unfold bt
  rw [dif_pos hs]
  have hb := hx xs[k] (List.getElem_mem h)
  have e : (strOfNums xs)[k]'hs = UInt8.ofNat (xs[k]).toNat := by
    show (strOfNums xs).data[k] = _
    simp [strOfNums]
  rw [e]
  simp
  omega
theorem strOf_append (a b : List Int) : strOfNums (a ++ b) = strOfNums a ++ strOfNums b := by
  apply ByteArray.ext
  simp [strOfNums]

/-- What is put behind bytes is got again. -/
theorem getN_low (xs : List Int) (v n : Nat) (hx : ∀ x ∈ xs, 0 ≤ x ∧ x ≤ 255) : getN (strOfNums (xs ++ low v n)) xs.length n = v % 256 ^ n := by
  have key : ∀ k, k ≤ n → getN (strOfNums (xs ++ low v n)) xs.length k = v / 256 ^ (n - k) % 256 ^ k := by
    intro k
    induction k with
    | zero => intro _; simp [getN, Nat.mod_one]
    | succ k ih =>
      intro h
      have hall : ∀ x ∈ xs ++ low v n, 0 ≤ x ∧ x ≤ 255 := by
        intro x hxx
        rcases List.mem_append.1 hxx with h1 | h1
        · exact hx x h1
        · exact low_range v n x h1
      have hl : xs.length + k < (xs ++ low v n).length := by simp [low_length]; omega
      have hb := bt_strOf (xs ++ low v n) (xs.length + k) hl hall
      have he : (xs ++ low v n)[xs.length + k] = ((v / 256 ^ (n - (k + 1)) % 256 : Nat) : Int) := by
        have hfl := front_low v n (k + 1) h
        have hk1 : k < (low v n).length := by rw [low_length]; omega
        have e1 : (xs ++ low v n)[xs.length + k] = (low v n)[k] := by simp
        rw [e1]
        have hk2 : k < (front v n (k + 1) ++ low v (n - (k + 1))).length := by rw [hfl]; exact hk1
        have e2 : (low v n)[k] = (front v n (k + 1) ++ low v (n - (k + 1)))[k]'hk2 := by simp only [hfl]
        rw [e2]
        have hk3 : k < (front v n (k + 1)).length := by rw [front_length]; omega
        rw [List.getElem_append_left hk3]
        have e3 : n - 1 - k = n - (k + 1) := by omega
        simp only [front, e3]
        have hk4 : (front v n k).length ≤ k := by rw [front_length]; exact Nat.le_refl k
        rw [List.getElem_append_right hk4]
        simp [front_length]
      rw [getN, ih (by omega), hb, he]
      have e4 : n - k = (n - (k + 1)) + 1 := by omega
      rw [e4, Nat.pow_succ, ← Nat.div_div_eq_div_mul]
      generalize v / 256 ^ (n - (k + 1)) = q
      have e5 : ((q % 256 : Nat) : Int).toNat = q % 256 := by omega
      rw [e5, Nat.pow_succ, Nat.mul_comm (256 ^ k) 256, Nat.mod_mul]
      omega
  have := key n (Nat.le_refl n)
  simpa using this
theorem fit_lt {v : Nat} {n : Nat} (h : fitB v n = true) (hv : v ≤ 18446744073709551615) : v < 256 ^ n := by
  unfold fitB at h
  simp at h
  rcases h with ((⟨h1, h2⟩ | ⟨h1, h2⟩) | ⟨h1, h2⟩) | h1
  · obtain rfl : n = 1 := by omega
    omega
  · obtain rfl : n = 2 := by omega
    omega
  · obtain rfl : n = 4 := by omega
    omega
  · obtain rfl : n = 8 := by omega
    omega
theorem fit_size {v : Nat} {n : Int} (h : fitB v n = true) : sizeB n = true := by
  rcases size_cases n with rfl | rfl | rfl | rfl | h'
  · rfl
  · rfl
  · rfl
  · rfl
  · rw [fitB_none v h'] at h; cases h
theorem size_nat {n : Int} (h : sizeB n = true) : ∃ k : Nat, n = (k : Int) ∧ 1 ≤ k ∧ k ≤ 8 ∧ wd n = 8 * (k : Int) := by
  rcases size_cases n with rfl | rfl | rfl | rfl | h'
  · exact ⟨1, rfl, by omega, by omega, rfl⟩
  · exact ⟨2, rfl, by omega, by omega, rfl⟩
  · exact ⟨4, rfl, by omega, by omega, rfl⟩
  · exact ⟨8, rfl, by omega, by omega, rfl⟩
  · rw [sizeB_none h'] at h; cases h
theorem size_no {n : Int} (h : sizeB n = false) : wd n = 0 := by
  rcases size_cases n with rfl | rfl | rfl | rfl | h'
  · cases h
  · cases h
  · cases h
  · cases h
  · exact wd_none h'
theorem fit_no {n : Int} (v : Nat) (h : sizeB n = false) : fitB v n = false := by
  cases hf : fitB v n with
  | false => rfl
  | true => rw [fit_size hf] at h; cases h
end Go.Proofs.YtpdoihndpnpifaaDoor.Oct
