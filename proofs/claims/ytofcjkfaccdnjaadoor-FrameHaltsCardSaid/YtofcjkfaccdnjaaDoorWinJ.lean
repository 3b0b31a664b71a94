
/- Windows: whose the ticks behind each cut are: the walk. Condition: at most 1,000 cuts and windows; the cuts rise from 0 to the frame's end and hold where each window begins. -/

import Derived.Test.YtofcjkfaccdnjaaDoorWinI

import Derived.Test.YtofcjkfaccdnjaaDoorShelf

import Derived.OwnWalk

namespace Go.Proofs.YtofcjkfaccdnjaaDoor.Win

open Go.RowKit Go.PlainAid Go.Proofs.YtofcjkfaccdnjaaDoor.Oct Go.Proofs.YtofcjkfaccdnjaaDoor.Flt Go.Proofs.YtofcjkfaccdnjaaDoor.Rdr Go.Proofs.YtofcjkfaccdnjaaDoor.Args

open Go.Proofs.YtofcjkfaccdnjaaDoor.Act (A3 actL flatA ActsAt I64 Wide row_beside row_base)

set_option linter.unusedVariables false

set_option linter.unusedSimpArgs false

def upTo (m k : Nat) : List Int := (List.range (m + 1)).map fun q => if q < k then ((q : Nat) : Int) else 0
theorem upTo_len (m k : Nat) : (upTo m k).length = m + 1 := by simp [upTo]
theorem upTo_set (m k : Nat) (hk : k ≤ m) : (upTo m k).set k (k : Int) = upTo m (k + 1) := by
  apply List.ext_getElem
  · simp [upTo]
  · intro i h1 h2
    by_cases hi : i = k
    · subst hi
      rw [List.getElem_set_self]
      simp [upTo]
    · rw [List.getElem_set_ne (fun e => hi e.symm)]
      simp only [upTo, List.getElem_map, List.getElem_range]
      by_cases h : i < k
      · rw [if_pos h, if_pos (by omega)]
      · rw [if_neg h, if_neg (by omega)]
theorem upTo_all (m : Nat) : upTo m (m + 1) = (List.range (m + 1)).map fun i => ((i : Nat) : Int) := by
  unfold upTo
  apply List.map_congr_left
  intro q hq
  rw [if_pos (List.mem_range.1 hq)]
theorem upTo_zero (m : Nat) : (upTo m 0).map (Value.int .i64) = List.replicate (m + 1) (.int .i64 0) := by
  apply List.ext_getElem
  · simp [upTo]
  · intro i h1 h2; simp [upTo]
/-- How many cuts are below one of them. -/
theorem count_cut {cs : List Int} {fr : Int} {m : Nat} (h : Cuts cs fr) (hm : cs.length = m + 1) {i : Nat} (hi : i ≤ m) : cs.countP (· < cut cs i) = i := by
  have e : cs = cs.take i ++ cs.drop i := (List.take_append_drop i cs).symm
  have h1 : (cs.take i).countP (· < cut cs i) = i := by
    have hl : (cs.take i).length = i := by rw [List.length_take]; omega
    have : (cs.take i).countP (· < cut cs i) = (cs.take i).length := by
      rw [List.countP_eq_length]
      intro v hv
      obtain ⟨j, hj, rfl⟩ := List.mem_iff_getElem.1 hv
      have := cut_lt h hm (show j < i by omega) hi
      unfold cut at this ⊢
      rw [List.getElem?_eq_getElem (by omega)] at this
      simp only [List.getElem_take]
      exact decide_eq_true this
    rw [this, hl]
  have h2 : (cs.drop i).countP (· < cut cs i) = 0 := by
    rw [List.countP_eq_zero]
    intro v hv
    obtain ⟨j, hj, rfl⟩ := List.mem_iff_getElem.1 hv
    have hj' : i + j < cs.length := by rw [List.length_drop] at hj; omega
    have := cut_le h hm (show i ≤ i + j by omega) (by omega)
    have e2 : cut cs (i + j) = cs[i + j] := by unfold cut; rw [List.getElem?_eq_getElem hj']; rfl
    rw [e2] at this
    simp only [List.getElem_drop]
    simp; omega
  conv => lhs; rw [e]
  rw [List.countP_append, ← List.take_append_drop i cs]
  simp only [List.take_append_drop]
  omega
theorem mem_cut {cs : List Int} {v : Int} {m : Nat} (h : v ∈ cs) (hm : cs.length = m + 1) : ∃ i, i ≤ m ∧ cut cs i = v := by
  obtain ⟨i, hi, e⟩ := List.mem_iff_getElem.1 h
  exact ⟨i, by omega, by unfold cut; rw [List.getElem?_eq_getElem hi, e]; rfl⟩
theorem infoI1 : (Tryd.prog.info? 3).map (fun i => (i.zero, i.size, i.bytes)) = some (some (.int .i64 0), 1, 8) := by kernel_rfl
def O1Rel (b B LB NB m : Nat) (xs : Array Value) (Lv : List Int) (w : World) (i : Value) (wr : World) : Prop := ∃ k : Nat, k ≤ m + 1 ∧ i = .int .i64 (k : Int) ∧ OW b B LB NB (m + 1) m xs Lv (upTo m k) w wr
def O2Rel (b B LB NB m : Nat) (xs : Array Value) (fr : Int) (l : List A3) (cs : List Int) (w : World) (i : Value) (wr : World) : Prop := ∃ (k : Nat) (nx : List Int), k ≤ l.length ∧ i = .int .i64 (k : Int) ∧ Ways nx (S0 fr (l.take k) cs m) m ∧ OW b B LB NB (m + 1) m xs (Lof fr (l.take k) cs m) nx w wr
def O3Rel (b B LB NB m X : Nat) (xs : Array Value) (fr : Int) (l : List A3) (x : A3) (cs : List Int) (i0 : Nat) (w : World) (i : Value) (wr : World) : Prop := ∃ (j : Nat) (nx : List Int), j ≤ m ∧ i0 ≤ j ∧ i = .int .i64 (j : Int) ∧ S1 fr l cs m i0 j (tW fr x) j = false ∧ Ways nx (S1 fr l cs m i0 j (tW fr x)) m ∧ OW b B LB NB (m + 1) m xs (LofI fr l x cs m i0 j) nx w wr ∧ wr.heap[X]? = some (.cells (winC x) 82 (0, 0))
end Go.Proofs.YtofcjkfaccdnjaaDoor.Win
