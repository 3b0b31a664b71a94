
/- That a number's bytes in a text are read as the number. No condition. -/

import Derived.Test.YtpjillclladjaaaDoorRdrC

namespace Go.Proofs.YtpjillclladjaaaDoor.Rdr

open Go.RowKit Go.PlainAid Go.Proofs.YtpjillclladjaaaDoor.Oct Go.Proofs.YtpjillclladjaaaDoor.Flt

set_option linter.unusedVariables false

theorem getN_same (s s' : ByteArray) (p : Nat) : ∀ n, (∀ j, j < n → bt s (p + j) = bt s' (p + j)) → getN s p n = getN s' p n
  | 0, _ => rfl
  | n + 1, h => by
    have h1 := getN_same s s' p n (fun j hj => h j (by omega))
    have h2 := h n (by omega)
    rw [getN, getN, h1, h2]
/-- Small numbers, as bytes. -/
def Small (l : List Int) : Prop := ∀ x ∈ l, 0 ≤ x ∧ x ≤ 255
theorem Small.append {a b : List Int} (ha : Small a) (hb : Small b) : Small (a ++ b) := by
  intro x hx
  rcases List.mem_append.1 hx with h | h
  · exact ha x h
  · exact hb x h
theorem small_low (v n : Nat) : Small (low v n) := low_range v n
theorem bt_part (a b : List Int) (k : Nat) (h : k < a.length) (ha : Small a) (hb : Small b) : bt (strOfNums (a ++ b)) k = bt (strOfNums a) k := by
  rw [bt_strOf (a ++ b) k (by rw [List.length_append]; omega) (ha.append hb), bt_strOf a k h ha, List.getElem_append_left h]
theorem num_read (pre post : List Int) (v n : Nat) (hn : n = 1 ∨ n = 2 ∨ n = 4 ∨ n = 8) (hv : v < 256 ^ n) (h1 : Small pre) (h2 : Small post) (M : ByteArray) (hM : strOfNums (pre ++ low v n ++ post) = M) (p : Nat) (hp : p = pre.length) (sec fs fa : Int) :
    numS ⟨M, p, sec, 0, fs, fa⟩ n = ⟨M, p + n, sec, 0, fs, fa⟩ ∧ numV ⟨M, p, sec, 0, fs, fa⟩ n = v := by
  subst hp
  have hsz : M.size = pre.length + n + post.length := by rw [← hM, strOfNums_size]; simp [low_length]; omega
  have hg : getB M (pre.length : Nat) (n : Nat) = true := by
    unfold getB sizeB
    rw [hsz]
    rcases hn with rfl | rfl | rfl | rfl <;> (simp; omega)
  have hN : getN M pre.length n = v := by
    have h3 : getN M pre.length n = getN (strOfNums (pre ++ low v n)) pre.length n := by
      refine getN_same _ _ _ _ fun j hj => ?_
      rw [← hM]
      exact bt_part _ _ _ (by rw [List.length_append, low_length]; omega) (h1.append (small_low v n)) h2
    rw [h3, getN_low pre v n h1, Nat.mod_eq_of_lt hv]
  constructor
  · unfold numS
    rw [if_pos rfl, if_pos hg]
  · unfold numV getV
    rw [if_pos rfl, if_pos hg]
    simpa using hN
end Go.Proofs.YtpjillclladjaaaDoor.Rdr
