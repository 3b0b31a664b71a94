
/- Plain arithmetic for the law on a reader's numbers: what is got of a text whose last bytes are a number's; and a round of the law, for a size and a count of bytes that lack. Condition: the table of names holds what the program lays there. -/

import Derived.Test.YtbjolbgjohggiaaDoorRdrF

import Derived.Test.YtbjolbgjohggiaaDoorOctP

namespace Go.Proofs.YtbjolbgjohggiaaDoor.Rdr

open Go.RowKit Go.PlainAid Go.Proofs.YtbjolbgjohggiaaDoor.Flt Go.Proofs.YtbjolbgjohggiaaDoor.Oct

set_option linter.unusedVariables false

theorem bt_append (a b : ByteArray) (k : Nat) : bt (a ++ b) (a.size + k) = bt b k := by
  unfold bt
  by_cases h : k < b.size
  · rw [dif_pos (by rw [ByteArray.size_append]; omega), dif_pos h]
    congr 2
    rw [ByteArray.getElem_append_right (by omega)]
    congr 1; omega
  · rw [dif_neg (by rw [ByteArray.size_append]; omega), dif_neg h]
theorem getN_append (a b : ByteArray) (p k : Nat) : getN (a ++ b) (a.size + p) k = getN b p k := by
  induction k with
  | zero => rfl
  | succ k ih => rw [getN, getN, ih, Nat.add_assoc, bt_append]
theorem got_back (a : ByteArray) (q n : Nat) (hn : n = 1 ∨ n = 2 ∨ n = 4 ∨ n = 8) (hq : q < 256 ^ n) :
    getB (a ++ strOfNums (low q n)) (a.size : Nat) (n : Nat) = true ∧ getV (a ++ strOfNums (low q n)) (a.size : Nat) (n : Nat) = q := by
  have hs : (strOfNums (low q n)).size = n := by rw [strOfNums_size, low_length]
  have hb : getB (a ++ strOfNums (low q n)) (a.size : Nat) (n : Nat) = true := by
    have hz : sizeB (n : Int) = true := by rcases hn with rfl | rfl | rfl | rfl <;> rfl
    unfold getB
    rw [hz, ByteArray.size_append, hs]
    simp
  refine ⟨hb, ?_⟩
  unfold getV
  rw [if_pos hb]
  have h1 := getN_append a (strOfNums (low q n)) 0 n
  have h2 := getN_low [] q n (by simp)
  simp only [List.nil_append, List.length_nil] at h2
  simp only [Int.toNat_natCast]
  rw [Nat.add_zero] at h1
  rw [h1, h2, Nat.mod_eq_of_lt hq]
theorem num_full (a : ByteArray) (q n : Nat) (hn : n = 1 ∨ n = 2 ∨ n = 4 ∨ n = 8) (hq : q < 256 ^ n) :
    numS ⟨a ++ strOfNums (low q n), a.size, 0, 0, 0, 0⟩ n = ⟨a ++ strOfNums (low q n), a.size + n, 0, 0, 0, 0⟩ ∧ numV ⟨a ++ strOfNums (low q n), a.size, 0, 0, 0, 0⟩ n = q := by
  obtain ⟨h1, h2⟩ := got_back a q n hn hq
  unfold numS numV
  rw [if_pos rfl, if_pos rfl]
  simp only []
  rw [h1, h2]
  exact ⟨rfl, rfl⟩
theorem num_short (a u : ByteArray) (n : Nat) (h : u.size < n) :
    numS ⟨a ++ u, a.size, 0, 0, 0, 0⟩ n = ⟨a ++ u, a.size, 0, 2, 0, a.size⟩ ∧ numV ⟨a ++ u, a.size, 0, 0, 0, 0⟩ n = 0 := by
  have h1 : getB (a ++ u) (a.size : Nat) (n : Nat) = false := by
    unfold getB
    rw [ByteArray.size_append]
    simp; omega
  unfold numS numV getV
  rw [if_pos rfl, if_pos rfl]
  simp only []
  rw [h1]
  exact ⟨rfl, rfl⟩
theorem txt_front (a u : ByteArray) : txtS ⟨a ++ u, 0, 0, 0, 0, 0⟩ (a.size : Nat) = ⟨a ++ u, a.size, 0, 0, 0, 0⟩ ∧ txtV ⟨a ++ u, 0, 0, 0, 0, 0⟩ (a.size : Nat) = a := by
  unfold txtS txtV
  simp only [Int.toNat_natCast]
  have hle : 0 + a.size ≤ (a ++ u).size := by rw [ByteArray.size_append]; omega
  rw [if_pos trivial, if_pos hle, if_pos ⟨trivial, hle⟩]
  refine ⟨by rw [Nat.zero_add], ?_⟩
  apply ByteArray.ext
  rw [ByteArray.data_extract, ByteArray.data_append]
  simp

/-- The front is read. -/
theorem front_any (a u : ByteArray) (g : Nat) (w : World) (ha : a.size ≤ 100) (hu : u.size ≤ 8) (hn : Names w) (h : IsRdr w g ⟨a ++ u, 0, 0, 0, 0, 0⟩) :
    Calls Tryd.prog 17 #[.pointer (some ⟨g, 0, none⟩), .int .i64 a.size] w (SPost g ⟨a ++ u, a.size, 0, 0, 0, 0⟩ a w) := by
  have := txt_any g ⟨a ++ u, 0, 0, 0, 0, 0⟩ a.size w hn h ⟨Nat.zero_le _, by show (a ++ u).size ≤ _; rw [ByteArray.size_append]; omega⟩
  rwa [(txt_front a u).1, (txt_front a u).2] at this
/-- A number whose bytes are all there, in 64 bits. -/
theorem ok_full (a u : ByteArray) (ha : a.size ≤ 100) (hu : u.size ≤ 8) (p : Nat) (hp : p ≤ a.size + u.size) (k : Nat) (s f : Int) : Ok ⟨a ++ u, p, s, k, s, f⟩ :=
  ⟨by show p ≤ (a ++ u).size; rw [ByteArray.size_append]; exact hp, by show (a ++ u).size ≤ _; rw [ByteArray.size_append]; omega⟩
theorem left_full (a u : ByteArray) (g n : Nat) (w : World) (ha : a.size ≤ 100) (hu : u.size ≤ 8) (hn : u.size = n) (h : IsRdr w g ⟨a ++ u, a.size + n, 0, 0, 0, 0⟩) :
    Calls Tryd.prog 14 #[.pointer (some ⟨g, 0, none⟩)] w fun e w' => e = .returned (.int .i64 0) ∧ ∃ n, w' = w.drewN n := by
  have := left_int g _ w h (ok_full a u ha hu _ (by omega) 0 0 0)
  rwa [show (((⟨a ++ u, a.size + n, 0, 0, 0, 0⟩ : St).s.size : Int) - ((⟨a ++ u, a.size + n, 0, 0, 0, 0⟩ : St).p : Int)) = 0 by show ((a ++ u).size : Int) - ((a.size + n : Nat) : Int) = 0; rw [ByteArray.size_append]; omega] at this
theorem extract_len (t : ByteArray) (j : Nat) (h : j ≤ t.size) : (t.extract 0 j).size = j := by rw [ByteArray.size_extract]; omega
theorem extract_all (t : ByteArray) (j : Nat) (h : t.size = j) : t.extract 0 j = t := by
  apply ByteArray.ext
  rw [ByteArray.data_extract, ← h]
  show t.data.extract 0 t.data.size = t.data
  simp
end Go.Proofs.YtbjolbgjohggiaaDoor.Rdr
