
/- What the document's bytes of a name are, and that package name's Get reads them as the name. No condition. -/

import Derived.Test.YtlbpmbdogkfecaaDoorNamP

namespace Go.Proofs.YtlbpmbdogkfecaaDoor.Nam

open Go.RowKit Go.PlainAid Go.Proofs.YtlbpmbdogkfecaaDoor.Oct Go.Proofs.YtlbpmbdogkfecaaDoor.Flt Go.Proofs.YtlbpmbdogkfecaaDoor.Rdr

set_option linter.unusedVariables false

/-- A name's bytes. -/
def nmB (s : ByteArray) : ByteArray := strOfNums ((s.size : Int) :: bytesOf s)
theorem nmB_cat (s : ByteArray) : strOfNums [(s.size : Int)] ++ s = nmB s := by
  unfold nmB
  rw [show ((s.size : Int) :: bytesOf s) = [(s.size : Int)] ++ bytesOf s from rfl, strOf_append, str_bytes]
theorem nmB_size (s : ByteArray) : (nmB s).size = 1 + s.size := by
  unfold nmB; rw [strOfNums_size, List.length_cons, bytesOf_len]; omega
theorem cat_extract (a b : ByteArray) (n : Nat) (h : a.size = n) : (a ++ b).extract n (n + b.size) = b := by
  apply ByteArray.ext
  rw [ByteArray.data_extract, ByteArray.data_append, ← h]
  show (a.data ++ b.data).extract a.data.size (a.data.size + b.data.size) = b.data
  have e1 : a.data.extract a.data.size (a.data.size + b.data.size) = #[] := by
    apply Array.eq_empty_of_size_eq_zero; rw [Array.size_extract]; omega
  rw [Array.extract_append, e1]
  simp
/-- What is put is got. -/
theorem back (s : ByteArray) (h1 : 1 ≤ s.size) (h2 : s.size ≤ 16) (hr : rightB s = true) :
    nmS ⟨nmB s, 0, 0, 0, 0, 0⟩ = ⟨nmB s, 1 + s.size, 0, 0, 0, 0⟩ ∧ nmV ⟨nmB s, 0, 0, 0, 0, 0⟩ = s := by
  have hsz := nmB_size s
  have hb : getB (nmB s) (0 : Nat) (1 : Nat) = true := by unfold getB sizeB; rw [hsz]; simp; omega
  have hg : getV (nmB s) (0 : Nat) (1 : Nat) = s.size := by
    unfold getV
    rw [if_pos hb]
    simp only [Int.toNat_natCast]
    rw [getN, getN]
    have : bt (nmB s) (0 + 0) = s.size := by
      unfold nmB
      rw [bt_strOf _ _ (by simp) (by
        intro x hx
        rcases List.mem_cons.1 hx with rfl | hx
        · omega
        · exact bytesOf_range s x hx)]
      rfl
    rw [this]; simp
  have e1 : numS ⟨nmB s, 0, 0, 0, 0, 0⟩ 1 = ⟨nmB s, 1, 0, 0, 0, 0⟩ := by
    unfold numS; rw [if_pos rfl]; simp only []; rw [hb]; rfl
  have e2 : numV ⟨nmB s, 0, 0, 0, 0, 0⟩ 1 = s.size := by
    unfold numV; rw [if_pos rfl]; exact hg
  have hle : 1 + s.size ≤ (nmB s).size := by omega
  have e3 : txtS ⟨nmB s, 1, 0, 0, 0, 0⟩ (s.size : Nat) = ⟨nmB s, 1 + s.size, 0, 0, 0, 0⟩ := by
    unfold txtS; simp only [Int.toNat_natCast]; rw [if_pos trivial, if_pos hle]
  have e4 : txtV ⟨nmB s, 1, 0, 0, 0, 0⟩ (s.size : Nat) = s := by
    unfold txtV; simp only [Int.toNat_natCast]; rw [if_pos ⟨trivial, hle⟩]
    rw [← nmB_cat]
    exact cat_extract _ _ 1 (by rw [strOfNums_size]; rfl)
  have hng : ¬ (s.size = 0 ∨ 16 < s.size) := by omega
  constructor
  · unfold nmS
    rw [e1, e2, e3, e4, if_neg (by simp), if_neg hng, if_neg (by simp), hr]; rfl
  · unfold nmV
    rw [e1, e2, e3, e4, if_pos ⟨rfl, hng, rfl, hr⟩]
end Go.Proofs.YtlbpmbdogkfecaaDoor.Nam
