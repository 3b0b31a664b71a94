
/- Windows: whose the ticks behind each cut are. Condition: at most 1,000 cuts, which rise from 0 to the frame's end and hold where each window begins and ends. Windows: whose the ticks behind each cut are: the walk. Condition: at most 1,000 cuts and windows; the cuts rise from 0 to the frame's end and hold where each window begins. -/

import Derived.Test.YtofcjkfaccdnjaaDoorWinG

import Derived.Test.YtofcjkfaccdnjaaDoorActR

import Derived.Test.YtofcjkfaccdnjaaDoorShelf

import Derived.OwnWalk

namespace Go.Proofs.YtofcjkfaccdnjaaDoor.Win

open Go.RowKit Go.PlainAid Go.Proofs.YtofcjkfaccdnjaaDoor.Oct Go.Proofs.YtofcjkfaccdnjaaDoor.Flt Go.Proofs.YtofcjkfaccdnjaaDoor.Rdr Go.Proofs.YtofcjkfaccdnjaaDoor.Args

open Go.Proofs.YtofcjkfaccdnjaaDoor.Act (A3 actL flatA ActsAt I64 Wide row_beside)

set_option linter.unusedVariables false

set_option linter.unusedSimpArgs false

/-- A cut. -/
def cut (cs : List Int) (q : Nat) : Int := cs[q]?.getD 0
/-- The places whose ticks are one of these windows' already. -/
def S0 (fr : Int) (l : List A3) (cs : List Int) (m : Nat) (q : Nat) : Bool := decide (q < m) && covB fr l (cut cs q)
/-- .. and those that the window at hand has by now: from place i0 up to place i. -/
def S1 (fr : Int) (l : List A3) (cs : List Int) (m i0 i : Nat) (t : Int) (q : Nat) : Bool := S0 fr l cs m q || (decide (i0 ≤ q) && decide (q < i) && decide (cut cs q < t))
theorem cut_lt {cs : List Int} {fr : Int} {m : Nat} (h : Cuts cs fr) (hm : cs.length = m + 1) {i j : Nat} (hij : i < j) (hj : j ≤ m) : cut cs i < cut cs j := by
  have := rising_lt h.1 hij (show j < cs.length by omega)
  unfold cut
  rw [List.getElem?_eq_getElem (by omega), List.getElem?_eq_getElem (by omega)]
  exact this
theorem cut_le {cs : List Int} {fr : Int} {m : Nat} (h : Cuts cs fr) (hm : cs.length = m + 1) {i j : Nat} (hij : i ≤ j) (hj : j ≤ m) : cut cs i ≤ cut cs j := by
  rcases Nat.lt_or_ge i j with h1 | h1
  · have := cut_lt h hm h1 hj; omega
  · obtain rfl : i = j := by omega
    exact Int.le_refl _
theorem cut_end {cs : List Int} {fr : Int} {m : Nat} (h : Cuts cs fr) (hm : cs.length = m + 1) : cut cs m = fr := by unfold cut; rw [cuts_last h hm]; rfl
/-- A place is taken, and the next free one is found. -/
theorem s1_step {fr : Int} {l : List A3} {cs : List Int} {m i0 i j : Nat} {t : Int} (h0 : i0 ≤ i) (hi : i < m) (hc : cut cs i < t) (hj : FreeAt (fun q => S1 fr l cs m i0 i t q || q == i) m i j) (hs : S1 fr l cs m i0 i t i = false) :
    (fun q => S1 fr l cs m i0 i t q || q == i) = S1 fr l cs m i0 j t ∧ i < j := by
  obtain ⟨a1, a2, a3, a4⟩ := hj
  have hij : i < j := by
    rcases Nat.lt_or_ge i j with h | h
    · exact h
    · obtain rfl : i = j := by omega
      simp at a3
  refine ⟨?_, hij⟩
  funext q
  unfold S1
  cases hS : S0 fr l cs m q
  · simp only [Bool.false_or]
    by_cases hq : q < i
    · have h1 : (q == i) = false := by simp; omega
      have h2 : decide (q < j) = true := decide_eq_true (by omega)
      rw [h1, h2, decide_eq_true hq]; simp
    · by_cases hqi : q = i
      · subst hqi
        rw [decide_eq_true h0, decide_eq_true hij, decide_eq_true hc]; simp
      · have h1 : (q == i) = false := by simp; omega
        by_cases hqj : q < j
        · have h3 : (S0 fr l cs m q || decide (i0 ≤ q) && decide (q < i) && decide (cut cs q < t) || q == i) = true := a4 q (by omega) hqj
          rw [hS, h1, decide_eq_false hq] at h3
          simp at h3
        · rw [h1, decide_eq_false hq, decide_eq_false hqj]; simp
  · simp
theorem s1_start {fr : Int} {l : List A3} {cs : List Int} {m i0 i : Nat} {t : Int} (hj : FreeAt (S0 fr l cs m) m i0 i) : S1 fr l cs m i0 i t = S0 fr l cs m := by
  funext q
  unfold S1
  cases hS : S0 fr l cs m q
  · by_cases h1 : i0 ≤ q
    · by_cases h2 : q < i
      · have := hj.2.2.2 q h1 h2; rw [hS] at this; cases this
      · rw [decide_eq_false h2]; simp
    · rw [decide_eq_false h1]; simp
  · simp
/-- At the end of a window's places. -/
theorem s1_end {fr : Int} {l : List A3} {x : A3} {cs : List Int} {m i0 i : Nat} (h : Cuts cs fr) (hm : cs.length = m + 1) (hx : Num x) (hf : 0 ≤ fr) (hi : i ≤ m) (hi0 : i0 ≤ m) (h0 : cut cs i0 = fW fr x) (hc : ¬ cut cs i < tW fr x) (hii : i0 ≤ i) (q : Nat) (hq : q ≤ m) :
    S1 fr l cs m i0 i (tW fr x) q = S0 fr (l ++ [x]) cs m q ∧ (q < m → (decide (i0 ≤ q) && decide (q < i) && decide (cut cs q < tW fr x)) = hasB fr x (cut cs q)) := by
  have key : q < m → (decide (i0 ≤ q) && decide (q < i) && decide (cut cs q < tW fr x)) = hasB fr x (cut cs q) := fun hqm => by
    unfold hasB
    have e1 : decide (i0 ≤ q) = decide (fW fr x ≤ cut cs q) := by
      rcases Nat.lt_or_ge q i0 with h1 | h1
      · have := cut_lt h hm h1 hi0
        rw [decide_eq_false (by omega), decide_eq_false (by omega)]
      · have := cut_le h hm h1 hq
        rw [decide_eq_true h1, decide_eq_true (by omega)]
    rw [e1]
    by_cases h2 : q < i
    · rw [decide_eq_true h2]; simp
    · have := cut_le h hm (show i ≤ q by omega) hq
      rw [decide_eq_false h2, decide_eq_false (show ¬ cut cs q < tW fr x by omega)]; simp
  refine ⟨?_, key⟩
  unfold S1
  rcases Nat.lt_or_ge q m with hqm | hqm
  · rw [key hqm]
    unfold S0
    rw [cov_snoc, decide_eq_true hqm]; simp
  · obtain rfl : q = m := by omega
    have he := cut_end h hm
    have := (tW_in hx hf).2
    unfold S0
    rw [decide_eq_false (show ¬ q < q by omega), decide_eq_false (show ¬ cut cs q < tW fr x by omega)]; simp
/-- Within owners: the schedule's box b, the owners' row in block LB, the ways' in block NB. -/
structure OW (b B LB NB nc m : Nat) (xs : Array Value) (Lv nx : List Int) (w wr : World) : Prop where
  box : wr.heap[b]? = some (.cells xs 37 (0, 0))
  own : wr.ownsRow B 3 1 (.slice (some ⟨LB, 0, none⟩) m m) m (Lv.map (Value.int .i64))
  way : wr.ownsRow B 3 1 (.slice (some ⟨NB, 0, none⟩) (m + 1) nc) (m + 1) (nx.map (Value.int .i64))
  ne : LB ≠ NB
  bB : b < B
  base : w.heap.size ≤ b
  below : Below w.heap.size w wr
theorem OW.keep {b B LB NB nc m : Nat} {xs : Array Value} {Lv nx : List Int} {w wr w' : World} (f : OW b B LB NB nc m xs Lv nx w wr) (k : Below wr.heap.size wr w') : OW b B LB NB nc m xs Lv nx w w' :=
  ⟨(k.block _ (lt_of_block f.box)).trans f.box, owns_kept f.own k, owns_kept f.way k, f.ne, f.bB, f.base, f.below.trans (k.mono f.below.size)⟩
theorem just_grownW {w w' : World} {b : Nat} (h : w.grownBy w' (some b)) : Just b w w' := ⟨h.os, h.tape, h.output, h.size, fun k hk hne => h.block k hk (fun e => hne (Option.some.inj e))⟩
theorem OW.ways {b B LB NB nc m : Nat} {xs : Array Value} {Lv nx nx' : List Int} {w wr w' : World} (f : OW b B LB NB nc m xs Lv nx w wr) (hg : wr.grownBy w' (some NB)) (ho : w'.ownsRow B 3 1 (.slice (some ⟨NB, 0, none⟩) (m + 1) nc) (m + 1) (nx'.map (Value.int .i64))) : OW b B LB NB nc m xs Lv nx' w w' := by
  have h1 := (f.way.lt NB rfl).1
  have h2 := f.bB
  have h3 := f.base
  have e : ∀ k, (Value.slice (some ⟨LB, 0, none⟩) m m).ownBlock = some k → k ≠ NB := fun k hk => by cases hk; exact f.ne
  exact ⟨(hg.block _ (lt_of_block f.box) (fun e => by have := Option.some.inj e; omega)).trans f.box, row_beside f.own (just_grownW hg) e, ho, f.ne, f.bB, f.base, f.below.grown hg f.below.size (fun k hk => by have := Option.some.inj hk; omega)⟩
theorem OW.owners {b B LB NB nc m : Nat} {xs : Array Value} {Lv Lv' nx : List Int} {w wr w' : World} (f : OW b B LB NB nc m xs Lv nx w wr) (hg : wr.grownBy w' (some LB)) (ho : w'.ownsRow B 3 1 (.slice (some ⟨LB, 0, none⟩) m m) m (Lv'.map (Value.int .i64))) : OW b B LB NB nc m xs Lv' nx w w' := by
  have h1 := (f.own.lt LB rfl).1
  have h2 := f.bB
  have h3 := f.base
  have e : ∀ k, (Value.slice (some ⟨NB, 0, none⟩) (m + 1) nc).ownBlock = some k → k ≠ LB := fun k hk => by cases hk; exact fun e => f.ne e.symm
  exact ⟨(hg.block _ (lt_of_block f.box) (fun e => by have := Option.some.inj e; omega)).trans f.box, ho, row_beside f.way (just_grownW hg) e, f.ne, f.bB, f.base, f.below.grown hg f.below.size (fun k hk => by have := Option.some.inj hk; omega)⟩
/-- The owners so far. -/
def Lof (fr : Int) (l : List A3) (cs : List Int) (m : Nat) : List Int := (List.range m).map fun q => ownT fr l (cut cs q)
def LofI (fr : Int) (l : List A3) (x : A3) (cs : List Int) (m i0 i : Nat) : List Int := (List.range m).map fun q => if covB fr l (cut cs q) then ownT fr l (cut cs q) else if decide (i0 ≤ q) && decide (q < i) && decide (cut cs q < tW fr x) then x.s else -1
theorem lof_nil (fr : Int) (cs : List Int) (m : Nat) : Lof fr [] cs m = List.replicate m (-1) := by
  unfold Lof
  apply List.ext_getElem
  · simp
  · intro i h1 h2
    simp [ownT]
theorem lof_start {fr : Int} {l : List A3} {x : A3} {cs : List Int} {m i0 i : Nat} (hj : FreeAt (S0 fr l cs m) m i0 i) : LofI fr l x cs m i0 i = Lof fr l cs m := by
  unfold LofI Lof
  apply List.map_congr_left
  intro q hq
  have hqm := List.mem_range.1 hq
  split
  · rfl
  · rename_i hc
    have hc' : covB fr l (cut cs q) = false := by simpa using hc
    rw [own_none _ _ _ hc']
    split
    · rename_i h1
      simp at h1
      have := hj.2.2.2 q h1.1.1 h1.1.2
      unfold S0 at this
      rw [hc'] at this
      simp at this
    · rfl
theorem lof_step {fr : Int} {l : List A3} {x : A3} {cs : List Int} {m i0 i j : Nat} (h0 : i0 ≤ i) (hi : i < m) (hc : cut cs i < tW fr x) (hj : FreeAt (fun q => S1 fr l cs m i0 i (tW fr x) q || q == i) m i j) (hs : S1 fr l cs m i0 i (tW fr x) i = false) (hij : i < j) :
    (LofI fr l x cs m i0 i).set i x.s = LofI fr l x cs m i0 j := by
  have hcov : covB fr l (cut cs i) = false := by
    unfold S1 S0 at hs
    simp at hs
    simpa using hs hi
  apply List.ext_getElem
  · unfold LofI; simp
  · intro q h1 h2
    have hqm : q < m := by unfold LofI at h2; simpa using h2
    by_cases hqi : q = i
    · subst hqi
      rw [List.getElem_set_self]
      simp only [LofI, List.getElem_map, List.getElem_range]
      rw [hcov, decide_eq_true h0, decide_eq_true hij, decide_eq_true hc]
      simp
    · rw [List.getElem_set_ne (fun e => hqi e.symm)]
      simp only [LofI, List.getElem_map, List.getElem_range]
      split
      · rfl
      · rename_i hcq
        have hcq' : covB fr l (cut cs q) = false := by simpa using hcq
        have e : (decide (i0 ≤ q) && decide (q < i) && decide (cut cs q < tW fr x)) = (decide (i0 ≤ q) && decide (q < j) && decide (cut cs q < tW fr x)) := by
          by_cases hq : q < i
          · rw [decide_eq_true hq, decide_eq_true (show q < j by omega)]
          · by_cases hqj : q < j
            · have h3 := hj.2.2.2 q (by omega) hqj
              dsimp only at h3
              unfold S1 S0 at h3
              rw [hcq', decide_eq_false hq] at h3
              have : (q == i) = false := by simp; omega
              rw [this] at h3
              simp at h3
            · rw [decide_eq_false hq, decide_eq_false hqj]
        rw [e]
theorem lof_end {fr : Int} {l : List A3} {x : A3} {cs : List Int} {m i0 i : Nat} (h : Cuts cs fr) (hm : cs.length = m + 1) (hx : Num x) (hf : 0 ≤ fr) (hi : i ≤ m) (hi0 : i0 ≤ m) (h0 : cut cs i0 = fW fr x) (hc : ¬ cut cs i < tW fr x) (hii : i0 ≤ i) :
    LofI fr l x cs m i0 i = Lof fr (l ++ [x]) cs m := by
  unfold LofI Lof
  apply List.map_congr_left
  intro q hq
  have hqm := List.mem_range.1 hq
  rw [own_snoc, (s1_end (l := l) h hm hx hf hi hi0 h0 hc hii q (by omega)).2 hqm]
end Go.Proofs.YtofcjkfaccdnjaaDoor.Win

namespace Go.Proofs.YtofcjkfaccdnjaaDoor.Win

open Go.RowKit Go.PlainAid Go.Proofs.YtofcjkfaccdnjaaDoor.Oct Go.Proofs.YtofcjkfaccdnjaaDoor.Flt Go.Proofs.YtofcjkfaccdnjaaDoor.Rdr Go.Proofs.YtofcjkfaccdnjaaDoor.Args

open Go.Proofs.YtofcjkfaccdnjaaDoor.Act (A3 actL flatA ActsAt I64 Wide row_beside row_base)

set_option linter.unusedVariables false

set_option linter.unusedSimpArgs false

def upTo (m k : Nat) : List Int := (List.range (m + 1)).map fun q => if q < k then ((q : Nat) : Int) else 0
theorem upTo_len (m k : Nat) : (upTo m k).length = m + 1 := by simp [upTo]
theorem upTo_set (m k : Nat) (hk : k ≤ m) : (upTo m k).set k (k : Int) = upTo m (k + 1) := by
  apply List.ext_getElem
  · simp [upTo]
  · intro i h1 h2
    by_cases hi : i = k
    · subst hi
      rw [List.getElem_set_self]
      simp [upTo]
    · rw [List.getElem_set_ne (fun e => hi e.symm)]
      simp only [upTo, List.getElem_map, List.getElem_range]
      by_cases h : i < k
      · rw [if_pos h, if_pos (by omega)]
      · rw [if_neg h, if_neg (by omega)]
theorem upTo_all (m : Nat) : upTo m (m + 1) = (List.range (m + 1)).map fun i => ((i : Nat) : Int) := by
  unfold upTo
  apply List.map_congr_left
  intro q hq
  rw [if_pos (List.mem_range.1 hq)]
theorem upTo_zero (m : Nat) : (upTo m 0).map (Value.int .i64) = List.replicate (m + 1) (.int .i64 0) := by
  apply List.ext_getElem
  · simp [upTo]
  · intro i h1 h2; simp [upTo]
/-- How many cuts are below one of them. -/
theorem count_cut {cs : List Int} {fr : Int} {m : Nat} (h : Cuts cs fr) (hm : cs.length = m + 1) {i : Nat} (hi : i ≤ m) : cs.countP (· < cut cs i) = i := by
  have e : cs = cs.take i ++ cs.drop i := (List.take_append_drop i cs).symm
  have h1 : (cs.take i).countP (· < cut cs i) = i := by
    have hl : (cs.take i).length = i := by rw [List.length_take]; omega
    have : (cs.take i).countP (· < cut cs i) = (cs.take i).length := by
      rw [List.countP_eq_length]
      intro v hv
      obtain ⟨j, hj, rfl⟩ := List.mem_iff_getElem.1 hv
      have := cut_lt h hm (show j < i by omega) hi
      unfold cut at this ⊢
      rw [List.getElem?_eq_getElem (by omega)] at this
      simp only [List.getElem_take]
      exact decide_eq_true this
    rw [this, hl]
  have h2 : (cs.drop i).countP (· < cut cs i) = 0 := by
    rw [List.countP_eq_zero]
    intro v hv
    obtain ⟨j, hj, rfl⟩ := List.mem_iff_getElem.1 hv
    have hj' : i + j < cs.length := by rw [List.length_drop] at hj; omega
    have := cut_le h hm (show i ≤ i + j by omega) (by omega)
    have e2 : cut cs (i + j) = cs[i + j] := by unfold cut; rw [List.getElem?_eq_getElem hj']; rfl
    rw [e2] at this
    simp only [List.getElem_drop]
    simp; omega
  conv => lhs; rw [e]
  rw [List.countP_append, ← List.take_append_drop i cs]
  simp only [List.take_append_drop]
  omega
theorem mem_cut {cs : List Int} {v : Int} {m : Nat} (h : v ∈ cs) (hm : cs.length = m + 1) : ∃ i, i ≤ m ∧ cut cs i = v := by
  obtain ⟨i, hi, e⟩ := List.mem_iff_getElem.1 h
  exact ⟨i, by omega, by unfold cut; rw [List.getElem?_eq_getElem hi, e]; rfl⟩
theorem infoI1 : (Tryd.prog.info? 3).map (fun i => (i.zero, i.size, i.bytes)) = some (some (.int .i64 0), 1, 8) := by kernel_rfl
def O1Rel (b B LB NB m : Nat) (xs : Array Value) (Lv : List Int) (w : World) (i : Value) (wr : World) : Prop := ∃ k : Nat, k ≤ m + 1 ∧ i = .int .i64 (k : Int) ∧ OW b B LB NB (m + 1) m xs Lv (upTo m k) w wr
def O2Rel (b B LB NB m : Nat) (xs : Array Value) (fr : Int) (l : List A3) (cs : List Int) (w : World) (i : Value) (wr : World) : Prop := ∃ (k : Nat) (nx : List Int), k ≤ l.length ∧ i = .int .i64 (k : Int) ∧ Ways nx (S0 fr (l.take k) cs m) m ∧ OW b B LB NB (m + 1) m xs (Lof fr (l.take k) cs m) nx w wr
def O3Rel (b B LB NB m X : Nat) (xs : Array Value) (fr : Int) (l : List A3) (x : A3) (cs : List Int) (i0 : Nat) (w : World) (i : Value) (wr : World) : Prop := ∃ (j : Nat) (nx : List Int), j ≤ m ∧ i0 ≤ j ∧ i = .int .i64 (j : Int) ∧ S1 fr l cs m i0 j (tW fr x) j = false ∧ Ways nx (S1 fr l cs m i0 j (tW fr x)) m ∧ OW b B LB NB (m + 1) m xs (LofI fr l x cs m i0 j) nx w wr ∧ wr.heap[X]? = some (.cells (winC x) 82 (0, 0))
end Go.Proofs.YtofcjkfaccdnjaaDoor.Win
