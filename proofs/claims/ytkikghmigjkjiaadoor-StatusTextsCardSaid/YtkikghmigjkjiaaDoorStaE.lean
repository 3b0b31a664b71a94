
/- A text in words: what stands between blanks, and that a status' words are read as its numbers. It says nothing of the program. No condition. -/

import Derived.Test.YtkikghmigjkjiaaDoorStaC

import Derived.Lib.AtoiAllCases

import Derived.Lib.ParseIntBCases

import Derived.Lib.ParseIntBTie

namespace Go.Proofs.YtkikghmigjkjiaaDoor.Sta

open Go.RowKit Go.PlainAid Go.Proofs.YtkikghmigjkjiaaDoor.Oct Go.Lib Go.Sort

set_option linter.unusedVariables false

set_option linter.unusedSimpArgs false

theorem parse_dec : ∀ (n : Nat), n < 18446744073709551616 → ∀ r, parseUint10 0 (decDigits n ++ r) = parseUint10 n r := by
  intro n
  induction n using Nat.strongRecOn with
  | _ n ih =>
    intro hn r
    have one : ∀ k, k < 10 → (UInt8.ofNat (48 + k)).toNat = 48 + k := by
      intro k hk
      rw [UInt8.toNat_ofNat']; omega
    by_cases h : n < 10
    · rw [decDigits_one h]
      simp only [List.cons_append, List.nil_append, parseUint10, one n h]
      rw [if_pos (by omega), if_neg (by omega), if_neg (by omega)]
      congr 1
      omega
    · rw [decDigits, dif_neg h, List.append_assoc, ih (n / 10) (by omega) (by omega)]
      simp only [List.cons_append, List.nil_append, parseUint10, one (n % 10) (by omega)]
      rw [if_pos (by omega), if_neg (by omega), if_neg (by omega)]
      congr 1
      omega
theorem dec_cons (n : Nat) : ∃ c r, decDigits n = c :: r ∧ 48 ≤ c.toNat ∧ c.toNat ≤ 57 := by
  induction n using Nat.strongRecOn with
  | _ n ih =>
    have one : ∀ k, k < 10 → (UInt8.ofNat (48 + k)).toNat = 48 + k := by
      intro k hk
      rw [UInt8.toNat_ofNat']; omega
    by_cases h : n < 10
    · exact ⟨_, [], decDigits_one h, by rw [one n h]; omega, by rw [one n h]; omega⟩
    · obtain ⟨c, r, e, h1, h2⟩ := ih (n / 10) (by omega)
      rw [decDigits, dif_neg h, e]
      exact ⟨c, _, rfl, h1, h2⟩
theorem uint_dec (n : Nat) (h : n ≤ 18446744073709551615) : parseUintB 64 (decDigits n) = .ok n := by
  rw [parseUintB_64]
  obtain ⟨c, r, e, _⟩ := dec_cons n
  unfold parseMag
  rw [if_neg (by rw [e]; simp)]
  have := parse_dec n (by omega) []
  rw [List.append_nil] at this
  rw [this]; rfl
theorem atoi_it (n : Int) (h : -9223372036854775808 ≤ n ∧ n ≤ 9223372036854775807) : atoiAll (itoa n) = .ok n := by
  rcases Int.lt_or_le n 0 with hn | hn
  · obtain ⟨u, rfl⟩ : ∃ u : Nat, n = -(u : Int) := ⟨n.natAbs, by omega⟩
    rw [itoa_neg u (by omega), atoiAll_minus, ← parseUintB_64, uint_dec u (by omega)]
    unfold signed
    dsimp only
    rw [if_neg (by omega)]
  · obtain ⟨u, rfl⟩ : ∃ u : Nat, n = (u : Int) := ⟨n.toNat, by omega⟩
    rw [itoa_nonneg]
    obtain ⟨c, r, e, h1, h2⟩ := dec_cons u
    rw [e, atoiAll_plain c r (by omega) (by omega), ← e, ← parseUintB_64, uint_dec u (by omega)]
    unfold signless
    dsimp only
    rw [if_neg (by omega)]
/-- The words of a text: at most so many are cut off. -/
def spl : Nat → List UInt8 → List (List UInt8)
  | 0, l => [l]
  | k + 1, l => if indexByte l 32 < 0 then [l] else l.take (indexByte l 32).toNat :: spl k (l.drop ((indexByte l 32).toNat + 1))
def BA (l : List UInt8) : ByteArray := ⟨l.toArray⟩
theorem ba_list (s : ByteArray) : BA s.data.toList = s := by apply ByteArray.ext; simp [BA]
theorem ba_data (l : List UInt8) : (BA l).data.toList = l := by simp [BA]
theorem ba_size (l : List UInt8) : (BA l).size = l.length := by show l.toArray.size = _; simp
theorem spl_len : ∀ (k : Nat) (l : List UInt8), 1 ≤ (spl k l).length ∧ (spl k l).length ≤ k + 1
  | 0, l => by simp [spl]
  | k + 1, l => by
    rw [spl]
    split
    · simp
    · have := spl_len k (l.drop ((indexByte l 32).toNat + 1)); simp; omega
def noB (l : List UInt8) : Prop := ∀ x ∈ l, x ≠ 32
theorem idx_none : ∀ {l : List UInt8}, noB l → indexByte l 32 = -1
  | [], _ => rfl
  | b :: l, h => by
    have h1 : (b == 32) = false := by simpa using h b (by simp)
    have h2 := idx_none (l := l) (fun x hx => h x (by simp [hx]))
    rw [indexByte, h1, h2]; rfl
theorem idx_at : ∀ {l : List UInt8} (r : List UInt8), noB l → indexByte (l ++ 32 :: r) 32 = l.length
  | [], r, _ => rfl
  | b :: l, r, h => by
    have h1 : (b == 32) = false := by simpa using h b (by simp)
    have h2 := idx_at (l := l) r (fun x hx => h x (by simp [hx]))
    rw [List.cons_append, indexByte, h1, h2]
    have : ((l.length : Int) == -1) = false := by simp
    rw [this]
    simp
theorem spl_last {k : Nat} {l : List UInt8} (h : noB l) : spl k l = [l] := by
  cases k with
  | zero => rfl
  | succ k => rw [spl, idx_none h]; rfl
theorem spl_more {k : Nat} {l : List UInt8} (r : List UInt8) (h : noB l) : spl (k + 1) (l ++ 32 :: r) = l :: spl k r := by
  rw [spl, idx_at r h, if_neg (by omega)]
  congr 1
  · simp
  · congr 1
    simp
theorem idx_lt : ∀ {l : List UInt8}, 0 ≤ indexByte l 32 → (indexByte l 32).toNat < l.length
  | [], h => by simp [indexByte] at h
  | b :: l, h => by
    rw [indexByte] at h ⊢
    split at h
    · rename_i h1; rw [if_pos h1]; simp
    · rename_i h1
      rw [if_neg h1]
      split at h
      · omega
      · rename_i h2
        rw [if_neg h2]
        have h3 : 0 ≤ indexByte l 32 := by
          have := indexByte_ge l 32
          simp at h2
          omega
        have := idx_lt h3
        simp
        omega
theorem nob_dec (n : Nat) : noB (decDigits n) := by
  induction n using Nat.strongRecOn with
  | _ n ih =>
    have one : ∀ k, k < 10 → UInt8.ofNat (48 + k) ≠ 32 := by
      intro k hk e
      have := congrArg UInt8.toNat e
      rw [UInt8.toNat_ofNat'] at this
      simp at this
      omega
    by_cases h : n < 10
    · rw [decDigits_one h]
      intro x hx
      rw [List.mem_singleton] at hx; subst hx
      exact one n h
    · rw [decDigits, dif_neg h]
      intro x hx
      rcases List.mem_append.1 hx with hx | hx
      · exact ih (n / 10) (by omega) x hx
      · rw [List.mem_singleton] at hx; subst hx; exact one (n % 10) (by omega)
theorem nob_it (n : Int) : noB (itoa n) := by
  unfold itoa
  split
  · intro x hx
    rcases List.mem_cons.1 hx with rfl | hx
    · decide
    · exact nob_dec _ x hx
  · exact nob_dec _
/-- A status' words. -/
theorem spl_text (l : Nat) (c n : Int) : spl 6 (tB l c n).data.toList = [[108, 97, 115, 116], decDigits l, [99, 117, 114, 114, 101, 110, 116], itoa c, [110, 101, 120, 116], itoa n] := by
  have e : (tB l c n).data.toList = [108, 97, 115, 116] ++ 32 :: (decDigits l ++ 32 :: ([99, 117, 114, 114, 101, 110, 116] ++ 32 :: (itoa c ++ 32 :: ([110, 101, 120, 116] ++ 32 :: itoa n)))) := by
    unfold tB wLast wCur wNext decB itB
    simp [ByteArray.data_append]
  rw [e, spl_more _ (by unfold noB; decide), spl_more _ (nob_dec l), spl_more _ (by unfold noB; decide), spl_more _ (nob_it c), spl_more _ (by unfold noB; decide), spl_last (nob_it n)]
/-- What the library makes of a word: a number without, with a sign. -/
def puV (l : List UInt8) : Nat := match parseUintB 64 l with | .ok u => u | .syntax => 0 | .range => 18446744073709551615
def atV (l : List UInt8) : Int := match atoiAll l with | .ok v => v | .syntax => 0 | .range => atoiSat l
theorem puV_le (l : List UInt8) : puV l ≤ 18446744073709551615 := by
  unfold puV
  split
  · rename_i u h
    rw [parseUintB_64] at h
    have := parseMag_lt h
    omega
  · omega
  · omega
theorem atV_in (l : List UInt8) : -9223372036854775808 ≤ atV l ∧ atV l ≤ 9223372036854775807 := by
  unfold atV
  split
  · rename_i v h
    exact atoiAll_bounds h
  · omega
  · unfold atoiSat; split <;> omega
theorem puV_dec (n : Nat) (h : n ≤ 18446744073709551615) : puV (decDigits n) = n := by unfold puV; rw [uint_dec n h]
theorem atV_it (n : Int) (h : -9223372036854775808 ≤ n ∧ n ≤ 9223372036854775807) : atV (itoa n) = n := by unfold atV; rw [atoi_it n h]
end Go.Proofs.YtkikghmigjkjiaaDoor.Sta
