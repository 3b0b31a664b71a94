/- Windows: whose the ticks behind each cut are. Condition: at most 1,000 cuts, which rise from 0 to the frame's end and hold where each window begins and ends. Windows: whose the ticks behind each cut are: the walk. Condition: at most 1,000 cuts and windows; the cuts rise from 0 to the frame's end and hold where each window begins. -/
import Derived.Test.YtpjillclladjaaaDoorMg12
import Derived.Test.YtpjillclladjaaaDoorMg09
import Derived.Test.YtpjillclladjaaaDoorMg07
import Derived.OwnWalk
namespace Go.Proofs.YtpjillclladjaaaDoor.Win

open Go.RowKit Go.PlainAid Go.Proofs.YtpjillclladjaaaDoor.Oct Go.Proofs.YtpjillclladjaaaDoor.Flt Go.Proofs.YtpjillclladjaaaDoor.Rdr Go.Proofs.YtpjillclladjaaaDoor.Args

open Go.Proofs.YtpjillclladjaaaDoor.Act (A3 actL flatA ActsAt I64 Wide row_beside)

set_option linter.unusedVariables false

set_option linter.unusedSimpArgs false

/-- A cut. -/
def cut (cs : List Int) (q : Nat) : Int := cs[q]?.getD 0
/-- The places whose ticks are one of these windows' already. -/
def S0 (fr : Int) (l : List A3) (cs : List Int) (m : Nat) (q : Nat) : Bool := decide (q < m) && covB fr l (cut cs q)
/-- .. and those that the window at hand has by now: from place i0 up to place i. -/
def S1 (fr : Int) (l : List A3) (cs : List Int) (m i0 i : Nat) (t : Int) (q : Nat) : Bool := S0 fr l cs m q || (decide (i0 ≤ q) && decide (q < i) && decide (cut cs q < t))
theorem cut_lt {cs : List Int} {fr : Int} {m : Nat} (h : Cuts cs fr) (hm : cs.length = m + 1) {i j : Nat} (hij : i < j) (hj : j ≤ m) : cut cs i < cut cs j := by
  have := rising_lt h.1 hij (show j < cs.length by omega)
  unfold cut
  rw [List.getElem?_eq_getElem (by omega), List.getElem?_eq_getElem (by omega)]
  exact this
theorem cut_le {cs : List Int} {fr : Int} {m : Nat} (h : Cuts cs fr) (hm : cs.length = m + 1) {i j : Nat} (hij : i ≤ j) (hj : j ≤ m) : cut cs i ≤ cut cs j := by
  rcases Nat.lt_or_ge i j with h1 | h1
  · have := cut_lt h hm h1 hj; omega
  · obtain rfl : i = j := by omega
    exact Int.le_refl _
theorem cut_end {cs : List Int} {fr : Int} {m : Nat} (h : Cuts cs fr) (hm : cs.length = m + 1) : cut cs m = fr := by unfold cut; rw [cuts_last h hm]; rfl
/-- A place is taken, and the next free one is found. -/
theorem s1_step {fr : Int} {l : List A3} {cs : List Int} {m i0 i j : Nat} {t : Int} (h0 : i0 ≤ i) (hi : i < m) (hc : cut cs i < t) (hj : FreeAt (fun q => S1 fr l cs m i0 i t q || q == i) m i j) (hs : S1 fr l cs m i0 i t i = false) :
    (fun q => S1 fr l cs m i0 i t q || q == i) = S1 fr l cs m i0 j t ∧ i < j := by
  obtain ⟨a1, a2, a3, a4⟩ := hj
  have hij : i < j := by
    rcases Nat.lt_or_ge i j with h | h
    · exact h
    · obtain rfl : i = j := by omega
      simp at a3
  refine ⟨?_, hij⟩
  funext q
  unfold S1
  cases hS : S0 fr l cs m q
  · simp only [Bool.false_or]
    by_cases hq : q < i
    · have h1 : (q == i) = false := by simp; omega
      have h2 : decide (q < j) = true := decide_eq_true (by omega)
      rw [h1, h2, decide_eq_true hq]; simp
    · by_cases hqi : q = i
      · subst hqi
        rw [decide_eq_true h0, decide_eq_true hij, decide_eq_true hc]; simp
      · have h1 : (q == i) = false := by simp; omega
        by_cases hqj : q < j
        · have h3 : (S0 fr l cs m q || decide (i0 ≤ q) && decide (q < i) && decide (cut cs q < t) || q == i) = true := a4 q (by omega) hqj
          rw [hS, h1, decide_eq_false hq] at h3
          simp at h3
        · rw [h1, decide_eq_false hq, decide_eq_false hqj]; simp
  · simp
theorem s1_start {fr : Int} {l : List A3} {cs : List Int} {m i0 i : Nat} {t : Int} (hj : FreeAt (S0 fr l cs m) m i0 i) : S1 fr l cs m i0 i t = S0 fr l cs m := by
  funext q
  unfold S1
  cases hS : S0 fr l cs m q
  · by_cases h1 : i0 ≤ q
    · by_cases h2 : q < i
      · have := hj.2.2.2 q h1 h2; rw [hS] at this; cases this
      · rw [decide_eq_false h2]; simp
    · rw [decide_eq_false h1]; simp
  · simp
/-- At the end of a window's places. -/
theorem s1_end {fr : Int} {l : List A3} {x : A3} {cs : List Int} {m i0 i : Nat} (h : Cuts cs fr) (hm : cs.length = m + 1) (hx : Num x) (hf : 0 ≤ fr) (hi : i ≤ m) (hi0 : i0 ≤ m) (h0 : cut cs i0 = fW fr x) (hc : ¬ cut cs i < tW fr x) (hii : i0 ≤ i) (q : Nat) (hq : q ≤ m) :
    S1 fr l cs m i0 i (tW fr x) q = S0 fr (l ++ [x]) cs m q ∧ (q < m → (decide (i0 ≤ q) && decide (q < i) && decide (cut cs q < tW fr x)) = hasB fr x (cut cs q)) := by
  have key : q < m → (decide (i0 ≤ q) && decide (q < i) && decide (cut cs q < tW fr x)) = hasB fr x (cut cs q) := fun hqm => by
    unfold hasB
    have e1 : decide (i0 ≤ q) = decide (fW fr x ≤ cut cs q) := by
      rcases Nat.lt_or_ge q i0 with h1 | h1
      · have := cut_lt h hm h1 hi0
        rw [decide_eq_false (by omega), decide_eq_false (by omega)]
      · have := cut_le h hm h1 hq
        rw [decide_eq_true h1, decide_eq_true (by omega)]
    rw [e1]
    by_cases h2 : q < i
    · rw [decide_eq_true h2]; simp
    · have := cut_le h hm (show i ≤ q by omega) hq
      rw [decide_eq_false h2, decide_eq_false (show ¬ cut cs q < tW fr x by omega)]; simp
  refine ⟨?_, key⟩
  unfold S1
  rcases Nat.lt_or_ge q m with hqm | hqm
  · rw [key hqm]
    unfold S0
    rw [cov_snoc, decide_eq_true hqm]; simp
  · obtain rfl : q = m := by omega
    have he := cut_end h hm
    have := (tW_in hx hf).2
    unfold S0
    rw [decide_eq_false (show ¬ q < q by omega), decide_eq_false (show ¬ cut cs q < tW fr x by omega)]; simp
/-- Within owners: the schedule's box b, the owners' row in block LB, the ways' in block NB. -/
structure OW (b B LB NB nc m : Nat) (xs : Array Value) (Lv nx : List Int) (w wr : World) : Prop where
  box : wr.heap[b]? = some (.cells xs 31 (0, 0))
  own : wr.ownsRow B 3 1 (.slice (some ⟨LB, 0, none⟩) m m) m (Lv.map (Value.int .i64))
  way : wr.ownsRow B 3 1 (.slice (some ⟨NB, 0, none⟩) (m + 1) nc) (m + 1) (nx.map (Value.int .i64))
  ne : LB ≠ NB
  bB : b < B
  base : w.heap.size ≤ b
  below : Below w.heap.size w wr
theorem OW.keep {b B LB NB nc m : Nat} {xs : Array Value} {Lv nx : List Int} {w wr w' : World} (f : OW b B LB NB nc m xs Lv nx w wr) (k : Below wr.heap.size wr w') : OW b B LB NB nc m xs Lv nx w w' :=
  ⟨(k.block _ (lt_of_block f.box)).trans f.box, owns_kept f.own k, owns_kept f.way k, f.ne, f.bB, f.base, f.below.trans (k.mono f.below.size)⟩
theorem just_grownW {w w' : World} {b : Nat} (h : w.grownBy w' (some b)) : Just b w w' := ⟨h.os, h.tape, h.output, h.size, fun k hk hne => h.block k hk (fun e => hne (Option.some.inj e))⟩
theorem OW.ways {b B LB NB nc m : Nat} {xs : Array Value} {Lv nx nx' : List Int} {w wr w' : World} (f : OW b B LB NB nc m xs Lv nx w wr) (hg : wr.grownBy w' (some NB)) (ho : w'.ownsRow B 3 1 (.slice (some ⟨NB, 0, none⟩) (m + 1) nc) (m + 1) (nx'.map (Value.int .i64))) : OW b B LB NB nc m xs Lv nx' w w' := by
  have h1 := (f.way.lt NB rfl).1
  have h2 := f.bB
  have h3 := f.base
  have e : ∀ k, (Value.slice (some ⟨LB, 0, none⟩) m m).ownBlock = some k → k ≠ NB := fun k hk => by cases hk; exact f.ne
  exact ⟨(hg.block _ (lt_of_block f.box) (fun e => by have := Option.some.inj e; omega)).trans f.box, row_beside f.own (just_grownW hg) e, ho, f.ne, f.bB, f.base, f.below.grown hg f.below.size (fun k hk => by have := Option.some.inj hk; omega)⟩
theorem OW.owners {b B LB NB nc m : Nat} {xs : Array Value} {Lv Lv' nx : List Int} {w wr w' : World} (f : OW b B LB NB nc m xs Lv nx w wr) (hg : wr.grownBy w' (some LB)) (ho : w'.ownsRow B 3 1 (.slice (some ⟨LB, 0, none⟩) m m) m (Lv'.map (Value.int .i64))) : OW b B LB NB nc m xs Lv' nx w w' := by
  have h1 := (f.own.lt LB rfl).1
  have h2 := f.bB
  have h3 := f.base
  have e : ∀ k, (Value.slice (some ⟨NB, 0, none⟩) (m + 1) nc).ownBlock = some k → k ≠ LB := fun k hk => by cases hk; exact fun e => f.ne e.symm
  exact ⟨(hg.block _ (lt_of_block f.box) (fun e => by have := Option.some.inj e; omega)).trans f.box, ho, row_beside f.way (just_grownW hg) e, f.ne, f.bB, f.base, f.below.grown hg f.below.size (fun k hk => by have := Option.some.inj hk; omega)⟩
/-- The owners so far. -/
def Lof (fr : Int) (l : List A3) (cs : List Int) (m : Nat) : List Int := (List.range m).map fun q => ownT fr l (cut cs q)
def LofI (fr : Int) (l : List A3) (x : A3) (cs : List Int) (m i0 i : Nat) : List Int := (List.range m).map fun q => if covB fr l (cut cs q) then ownT fr l (cut cs q) else if decide (i0 ≤ q) && decide (q < i) && decide (cut cs q < tW fr x) then x.s else -1
theorem lof_nil (fr : Int) (cs : List Int) (m : Nat) : Lof fr [] cs m = List.replicate m (-1) := by
  unfold Lof
  apply List.ext_getElem
  · simp
  · intro i h1 h2
    simp [ownT]
theorem lof_start {fr : Int} {l : List A3} {x : A3} {cs : List Int} {m i0 i : Nat} (hj : FreeAt (S0 fr l cs m) m i0 i) : LofI fr l x cs m i0 i = Lof fr l cs m := by
  unfold LofI Lof
  apply List.map_congr_left
  intro q hq
  have hqm := List.mem_range.1 hq
  split
  · rfl
  · rename_i hc
    have hc' : covB fr l (cut cs q) = false := by simpa using hc
    rw [own_none _ _ _ hc']
    split
    · rename_i h1
      simp at h1
      have := hj.2.2.2 q h1.1.1 h1.1.2
      unfold S0 at this
      rw [hc'] at this
      simp at this
    · rfl
theorem lof_step {fr : Int} {l : List A3} {x : A3} {cs : List Int} {m i0 i j : Nat} (h0 : i0 ≤ i) (hi : i < m) (hc : cut cs i < tW fr x) (hj : FreeAt (fun q => S1 fr l cs m i0 i (tW fr x) q || q == i) m i j) (hs : S1 fr l cs m i0 i (tW fr x) i = false) (hij : i < j) :
    (LofI fr l x cs m i0 i).set i x.s = LofI fr l x cs m i0 j := by
  have hcov : covB fr l (cut cs i) = false := by
    unfold S1 S0 at hs
    simp at hs
    simpa using hs hi
  apply List.ext_getElem
  · unfold LofI; simp
  · intro q h1 h2
    have hqm : q < m := by unfold LofI at h2; simpa using h2
    by_cases hqi : q = i
    · subst hqi
      rw [List.getElem_set_self]
      simp only [LofI, List.getElem_map, List.getElem_range]
      rw [hcov, decide_eq_true h0, decide_eq_true hij, decide_eq_true hc]
      simp
    · rw [List.getElem_set_ne (fun e => hqi e.symm)]
      simp only [LofI, List.getElem_map, List.getElem_range]
      split
      · rfl
      · rename_i hcq
        have hcq' : covB fr l (cut cs q) = false := by simpa using hcq
        have e : (decide (i0 ≤ q) && decide (q < i) && decide (cut cs q < tW fr x)) = (decide (i0 ≤ q) && decide (q < j) && decide (cut cs q < tW fr x)) := by
          by_cases hq : q < i
          · rw [decide_eq_true hq, decide_eq_true (show q < j by omega)]
          · by_cases hqj : q < j
            · have h3 := hj.2.2.2 q (by omega) hqj
              dsimp only at h3
              unfold S1 S0 at h3
              rw [hcq', decide_eq_false hq] at h3
              have : (q == i) = false := by simp; omega
              rw [this] at h3
              simp at h3
            · rw [decide_eq_false hq, decide_eq_false hqj]
        rw [e]
theorem lof_end {fr : Int} {l : List A3} {x : A3} {cs : List Int} {m i0 i : Nat} (h : Cuts cs fr) (hm : cs.length = m + 1) (hx : Num x) (hf : 0 ≤ fr) (hi : i ≤ m) (hi0 : i0 ≤ m) (h0 : cut cs i0 = fW fr x) (hc : ¬ cut cs i < tW fr x) (hii : i0 ≤ i) :
    LofI fr l x cs m i0 i = Lof fr (l ++ [x]) cs m := by
  unfold LofI Lof
  apply List.map_congr_left
  intro q hq
  have hqm := List.mem_range.1 hq
  rw [own_snoc, (s1_end (l := l) h hm hx hf hi hi0 h0 hc hii q (by omega)).2 hqm]
end Go.Proofs.YtpjillclladjaaaDoor.Win

namespace Go.Proofs.YtpjillclladjaaaDoor.Win

open Go.RowKit Go.PlainAid Go.Proofs.YtpjillclladjaaaDoor.Oct Go.Proofs.YtpjillclladjaaaDoor.Flt Go.Proofs.YtpjillclladjaaaDoor.Rdr Go.Proofs.YtpjillclladjaaaDoor.Args

open Go.Proofs.YtpjillclladjaaaDoor.Act (A3 actL flatA ActsAt I64 Wide row_beside row_base)

set_option linter.unusedVariables false

set_option linter.unusedSimpArgs false

def upTo (m k : Nat) : List Int := (List.range (m + 1)).map fun q => if q < k then ((q : Nat) : Int) else 0
theorem upTo_len (m k : Nat) : (upTo m k).length = m + 1 := by simp [upTo]
theorem upTo_set (m k : Nat) (hk : k ≤ m) : (upTo m k).set k (k : Int) = upTo m (k + 1) := by
  apply List.ext_getElem
  · simp [upTo]
  · intro i h1 h2
    by_cases hi : i = k
    · subst hi
      rw [List.getElem_set_self]
      simp [upTo]
    · rw [List.getElem_set_ne (fun e => hi e.symm)]
      simp only [upTo, List.getElem_map, List.getElem_range]
      by_cases h : i < k
      · rw [if_pos h, if_pos (by omega)]
      · rw [if_neg h, if_neg (by omega)]
theorem upTo_all (m : Nat) : upTo m (m + 1) = (List.range (m + 1)).map fun i => ((i : Nat) : Int) := by
  unfold upTo
  apply List.map_congr_left
  intro q hq
  rw [if_pos (List.mem_range.1 hq)]
theorem upTo_zero (m : Nat) : (upTo m 0).map (Value.int .i64) = List.replicate (m + 1) (.int .i64 0) := by
  apply List.ext_getElem
  · simp [upTo]
  · intro i h1 h2; simp [upTo]
/-- How many cuts are below one of them. -/
theorem count_cut {cs : List Int} {fr : Int} {m : Nat} (h : Cuts cs fr) (hm : cs.length = m + 1) {i : Nat} (hi : i ≤ m) : cs.countP (· < cut cs i) = i := by
  have e : cs = cs.take i ++ cs.drop i := (List.take_append_drop i cs).symm
  have h1 : (cs.take i).countP (· < cut cs i) = i := by
    have hl : (cs.take i).length = i := by rw [List.length_take]; omega
    have : (cs.take i).countP (· < cut cs i) = (cs.take i).length := by
      rw [List.countP_eq_length]
      intro v hv
      obtain ⟨j, hj, rfl⟩ := List.mem_iff_getElem.1 hv
      have := cut_lt h hm (show j < i by omega) hi
      unfold cut at this ⊢
      rw [List.getElem?_eq_getElem (by omega)] at this
      simp only [List.getElem_take]
      exact decide_eq_true this
    rw [this, hl]
  have h2 : (cs.drop i).countP (· < cut cs i) = 0 := by
    rw [List.countP_eq_zero]
    intro v hv
    obtain ⟨j, hj, rfl⟩ := List.mem_iff_getElem.1 hv
    have hj' : i + j < cs.length := by rw [List.length_drop] at hj; omega
    have := cut_le h hm (show i ≤ i + j by omega) (by omega)
    have e2 : cut cs (i + j) = cs[i + j] := by unfold cut; rw [List.getElem?_eq_getElem hj']; rfl
    rw [e2] at this
    simp only [List.getElem_drop]
    simp; omega
  conv => lhs; rw [e]
  rw [List.countP_append, ← List.take_append_drop i cs]
  simp only [List.take_append_drop]
  omega
theorem mem_cut {cs : List Int} {v : Int} {m : Nat} (h : v ∈ cs) (hm : cs.length = m + 1) : ∃ i, i ≤ m ∧ cut cs i = v := by
  obtain ⟨i, hi, e⟩ := List.mem_iff_getElem.1 h
  exact ⟨i, by omega, by unfold cut; rw [List.getElem?_eq_getElem hi, e]; rfl⟩
theorem infoI1 : (Tryd.prog.info? 3).map (fun i => (i.zero, i.size, i.bytes)) = some (some (.int .i64 0), 1, 8) := by kernel_rfl
def O1Rel (b B LB NB m : Nat) (xs : Array Value) (Lv : List Int) (w : World) (i : Value) (wr : World) : Prop := ∃ k : Nat, k ≤ m + 1 ∧ i = .int .i64 (k : Int) ∧ OW b B LB NB (m + 1) m xs Lv (upTo m k) w wr
def O2Rel (b B LB NB m : Nat) (xs : Array Value) (fr : Int) (l : List A3) (cs : List Int) (w : World) (i : Value) (wr : World) : Prop := ∃ (k : Nat) (nx : List Int), k ≤ l.length ∧ i = .int .i64 (k : Int) ∧ Ways nx (S0 fr (l.take k) cs m) m ∧ OW b B LB NB (m + 1) m xs (Lof fr (l.take k) cs m) nx w wr
def O3Rel (b B LB NB m X : Nat) (xs : Array Value) (fr : Int) (l : List A3) (x : A3) (cs : List Int) (i0 : Nat) (w : World) (i : Value) (wr : World) : Prop := ∃ (j : Nat) (nx : List Int), j ≤ m ∧ i0 ≤ j ∧ i = .int .i64 (j : Int) ∧ S1 fr l cs m i0 j (tW fr x) j = false ∧ Ways nx (S1 fr l cs m i0 j (tW fr x)) m ∧ OW b B LB NB (m + 1) m xs (LofI fr l x cs m i0 j) nx w wr ∧ wr.heap[X]? = some (.cells (winC x) 82 (0, 0))
set_option maxRecDepth 8000 in
set_option maxHeartbeats 6400000 in
theorem owners_any (id fr : Int) (P : Option Addr) (pc : Nat) (l : List A3) (C : Option Addr) (nn cc : Nat) (CB c m Bc : Nat) (cs : List Int) (w : World) (h1 : ActsAt w P l) (hnum : ∀ x ∈ l, Num x) (hf : 1 ≤ fr ∧ fr ≤ 1048576) (hcs : Cuts cs fr) (hm : cs.length = m + 1) (hm1 : 1 ≤ m) (hmm : m ≤ 1000) (hl : l.length ≤ 1000)
    (hmem : ∀ x ∈ l, fW fr x ∈ cs) (hC : w.ownsRow Bc 3 1 (.slice (some ⟨CB, 0, none⟩) (m + 1) c) (m + 1) (cs.map (Value.int .i64))) :
    Calls Tryd.prog 102 #[.agg #[.int .i64 id, .int .i64 fr, .slice P l.length pc, .slice C nn cc], .slice (some ⟨CB, 0, none⟩) (m + 1) c] w fun e w' => ∃ LB, e = .returned (.slice (some ⟨LB, 0, none⟩) m m) ∧ w'.ownsRow w.heap.size 3 1 (.slice (some ⟨LB, 0, none⟩) m m) m ((Lof fr l cs m).map (Value.int .i64)) ∧ Below w.heap.size w w' := by
  obtain ⟨i0, hi, hz0, hz1, hz2⟩ := info_parts infoI1
  obtain ⟨a, ha⟩ : ∃ a, l.length = a := ⟨_, rfl⟩
  have HA := Lib.hid ha
  rw [ha] at hl
  rw [ha]
  have H1 := Lib.hid h1
  have HNUM := Lib.hid hnum
  have HF := Lib.hid hf
  have HCS := Lib.hid hcs
  have HM := Lib.hid hm
  have HMM := Lib.hid (And.intro hm1 hmm)
  have HMEM := Lib.hid hmem
  have HC := Lib.hid hC
  have hwm : IntKind.i64.wrap (((m : Int) + 1) - 1) = m := by rw [IntKind.wrap_i64]; omega
  have hwm2 : IntKind.i64.wrap (m : Int) = m := IntWalk.i64_in _ (by omega)
  have hb0 : Below w.heap.size w ((w.alloc (.cells #[.int .i64 id, .int .i64 fr, .slice P a pc, .slice C nn cc] 31)).alloc (.cells #[.int .i64 (-1)] 3)) := two_below w _ _
  have HREP := Lib.hid (repeat_any (w.heap.size + 1) (-1) m ((w.alloc (.cells #[.int .i64 id, .int .i64 fr, .slice P a pc, .slice C nn cc] 31)).alloc (.cells #[.int .i64 (-1)] 3)) hm1 hmm (by
    have h := heap_alloc_new (w.alloc (.cells #[.int .i64 id, .int .i64 fr, .slice P a pc, .slice C nn cc] 31)) (.cells #[.int .i64 (-1)] 3)
    rw [World.size_alloc] at h
    rw [cell_of_row _ _ _ _ _ _ h]; rfl))
  have HBX : Hid (((w.alloc (.cells #[.int .i64 id, .int .i64 fr, .slice P a pc, .slice C nn cc] 31)).alloc (.cells #[.int .i64 (-1)] 3)).heap[w.heap.size]? = some (.cells #[.int .i64 id, .int .i64 fr, .slice P a pc, .slice C nn cc] 31 (0, 0))) := (heap_alloc_old _ _ (by simp)).trans (heap_alloc_new _ _)
  have HB0 := Lib.hid hb0
  clear ha h1 hnum hf hcs hm hm1 hmm hmem hC hb0
  go_enter Tryd.func102, Tryd.ntmps102
  go_wp2_with fail
  refine HREP.out.mono ?_
  rintro e w2 ⟨LB, rfl, ho2, hb2⟩
  have HB2 := Lib.hid (HB0.out.trans (hb2.mono HB0.out.size))
  have HO2 := Lib.hid ho2
  have HBX2 := Lib.hid ((hb2.block _ (lt_of_block HBX.out)).trans HBX.out)
  clear ho2 hb2 HREP HBX HB0
  go_wp2_with ((with_reducible show wpList _ _ _ _ _ _); refine wpList_make_full _ rfl (.tmp 20) (.tmp 20) 24 rfl (w.heap.size + 1) 3 i0 (.int .i64 0) 1 Tryd.underlying24 hi hz0 hz1 .i64 .i64 _ _ (m + 1) rfl rfl (by simp) (by simp) ?m1 ?m2 ?m3 ?_)
  case m1 => have := HMM.out; rw [hz2]; omega
  case m2 => have := HMM.out; unfold maxLen; omega
  case m3 => have := HB2.out.size; have := lt_of_block HBX2.out; omega
  intro w3 ho3 hg3
  have hb3 : Below w2.heap.size w2 w3 := (Below.refl _ _).grown hg3 (Nat.le_refl _) (fun k hk => by cases hk)
  have hLB := HO2.out.lt LB rfl
  simp only [World.size_alloc] at hLB
  have hw3 : OW w.heap.size (w.heap.size + 1) LB w2.heap.size (m + 1) m #[.int .i64 id, .int .i64 fr, .slice P a pc, .slice C nn cc] (Lof fr [] cs m) (upTo m 0) w w3 := by
    refine ⟨(hb3.block _ (lt_of_block HBX2.out)).trans HBX2.out, ?_, ?_, by omega, by omega, Nat.le_refl _, HB2.out.trans (hb3.mono HB2.out.size)⟩
    · rw [lof_nil, List.map_replicate]
      exact owns_kept (row_base HO2.out (by simp)) hb3
    · rw [upTo_zero]
      have h5 := toList_madeCells_one (.int .i64 0) (m + 1)
      rw [← h5]
      exact ho3
  obtain ⟨NB, hNB⟩ : ∃ NB, w2.heap.size = NB := ⟨_, rfl⟩
  rw [hNB] at hw3
  rw [hNB]
  have HW3 := Lib.hid hw3
  clear ho3 hg3 hb3 hLB hw3 hNB HO2 HBX2 HB2
  go_wp2_with fail
  go_loopw [24] (fun i wr => O1Rel w.heap.size (w.heap.size + 1) LB NB m #[.int .i64 id, .int .i64 fr, .slice P a pc, .slice C nn cc] (Lof fr [] cs m) w i wr) (fun i _ => m + 1 - (intOf i).toNat)
  case atStart => exact ⟨0, Nat.zero_le _, rfl, HW3.out⟩
  case round =>
    obtain ⟨k, hk, rfl, how⟩ := hrel
    have HOW := Lib.hid how
    clear how HW3
    by_cases hlt : k < m + 1
    · have hz := HOW.out.way.frozenAt k
      have hcl : wr.cell? ⟨NB, k, none⟩ = some (.int .i64 0) := by
        rw [HOW.out.way.cellAt k (by omega), List.getElem?_map]
        have : (upTo m k)[k]? = some 0 := by unfold upTo; rw [List.getElem?_map, List.getElem?_range (by omega)]; simp
        rw [this]; rfl
      have hst := HOW.out.way.stored k (.int .i64 (k : Int))
      rw [← List.map_set, upTo_set m k (by omega)] at hst
      have HST := Lib.hid (HOW.out.ways hst.2 hst.1)
      have hk0 : (0 : Int) ≤ (k : Int) := by omega
      have hkl : (k : Int) < ((m + 1 : Nat) : Int) := by omega
      have hkl2 : (k : Int) < (m : Int) + 1 := by omega
      have hk1 : IntKind.i64.wrap ((k : Int) + 1) = (k : Int) + 1 := IntWalk.i64_in _ (by have := HMM.out; omega)
      clear hst
      go_wp2
      go_roundw
      case rel => exact ⟨k + 1, by omega, by go_num, HST.out⟩
      case measure => simp [intOf]; omega
    · obtain rfl : k = m + 1 := by omega
      have hz2 := cell_of_row _ _ 2 _ _ _ HOW.out.box
      simp only [List.getElem?_toArray, List.getElem?_cons_zero, List.getElem?_cons_succ] at hz2
      have HS2 : Hid (O2Rel w.heap.size (w.heap.size + 1) LB NB m #[.int .i64 id, .int .i64 fr, .slice P a pc, .slice C nn cc] fr l cs w (.int .i64 (0 : Nat)) wr) := by
        refine ⟨0, _, Nat.zero_le _, rfl, ?_, HOW.out⟩
        rw [upTo_all]
        have e : S0 fr (l.take 0) cs m = fun _ => false := by funext q; simp [S0, covB]
        rw [e]
        exact ways_start m
      clear hlt HOW
      go_wp2_with fail
      go_loopw [35] (fun i wr => O2Rel w.heap.size (w.heap.size + 1) LB NB m #[.int .i64 id, .int .i64 fr, .slice P a pc, .slice C nn cc] fr l cs w i wr) (fun i _ => a - (intOf i).toNat)
      case atStart => exact HS2.out
      case round =>
        obtain ⟨k, nx, hk, rfl, hways, how⟩ := hrel
        have HWY := Lib.hid hways
        have HOW := Lib.hid how
        have hka : k ≤ a := by rw [← HA.out]; exact hk
        clear hways how hk HS2 hz2
        by_cases hlt : k < a
        · obtain ⟨x, hx⟩ : ∃ x, l[k]? = some x := ⟨_, List.getElem?_eq_getElem (by rw [HA.out]; exact hlt)⟩
          have hxm := List.mem_of_getElem? hx
          obtain ⟨ax, rfl, c1, c2, c3⟩ := (H1.out.kept HOW.out.below) k x hx
          have HNX := Lib.hid (HNUM.out x hxm)
          obtain ⟨q0, hq0, hcq⟩ := mem_cut (HMEM.out x hxm) HM.out
          have HQ0 := Lib.hid (And.intro hq0 hcq)
          have htk : l.take (k + 1) = l.take k ++ [x] := by rw [List.take_add_one, hx]; rfl
          have HTK := Lib.hid htk
          have hb5 : Below wr.heap.size wr (wr.alloc (.cells (winC x) 82)) := (Below.refl _ _).alloc (Nat.le_refl _) _
          have HOW5 := Lib.hid (HOW.out.keep hb5)
          have HX5 := Lib.hid (heap_alloc_new wr (.cells (winC x) 82))
          have HPT := Lib.hid (fun W => part_any x fr HNX.out ⟨by have := HF.out; omega, by have := HF.out; omega⟩ W)
          have hNX : NB < wr.heap.size := (HOW.out.way.lt NB rfl).2
          have hLX : LB < wr.heap.size := (HOW.out.own.lt LB rfl).2
          have HNBX : Hid (NB < wr.heap.size ∧ LB < wr.heap.size) := ⟨hNX, hLX⟩
          have b1 := cell_of_row _ _ 1 _ _ _ HOW5.out.box
          obtain ⟨s1, p1, n1⟩ := x
          unfold winC at HPT HX5 HOW5 b1
          simp only [List.getElem?_toArray, List.getElem?_cons_zero, List.getElem?_cons_succ] at b1
          dsimp only at c1 c2 c3 HPT HX5 HOW5
          obtain ⟨L, hL⟩ : ∃ L, l.take k = L := ⟨_, rfl⟩
          rw [hL] at HWY HOW HOW5 HTK
          have hki : (0 : Int) ≤ (k : Int) := by omega
          have hkb : (k : Int) < a := by omega
          have hk1 : IntKind.i64.wrap ((k : Int) + 1) = (k : Int) + 1 := IntWalk.i64_in _ (by omega)
          clear hx hxm hq0 hcq htk hb5 hNX hLX hL
          go_wp2_with fail
          refine (HPT.out _).mono ?_
          rintro e w6 ⟨rfl, hb6⟩
          have HOW6 := Lib.hid (HOW5.out.keep hb6)
          have HX6 := Lib.hid ((hb6.block _ (lt_of_block HX5.out)).trans HX5.out)
          have HSE := Lib.hid (Tryd.slices_BinarySearch_int CB 0 (m + 1) c cs (fW fr ⟨s1, p1, n1⟩) w6 (by rw [HM.out]; exact Nat.le_refl _) (by have := HMM.out; omega) (fun j hj => by
            rw [Nat.zero_add, (owns_kept HC.out HOW6.out.below).cellAt j (by rw [HM.out] at hj; omega), List.getElem?_map, List.getElem?_eq_getElem hj]
            simp [List.getD, List.getElem?_eq_getElem hj]) (HCS.out.1.take.imp fun h => Int.le_of_lt h))
          rw [List.take_of_length_le (by rw [HM.out]; exact Nat.le_refl _)] at HSE
          rw [← HQ0.out.2, count_cut HCS.out HM.out HQ0.out.1, HQ0.out.2] at HSE
          clear hb6 HPT b1 c1 c2 c3 HOW5 HX5
          go_wp2_with fail
          refine HSE.out.mono ?_
          rintro e w7 ⟨rfl, nd, rfl⟩
          have HOW7 := Lib.hid (HOW6.out.keep (w' := w6.drewN nd) ⟨rfl, rfl, rfl, Nat.le_refl _, fun _ _ => rfl⟩)
          have HX7 : Hid ((w6.drewN nd).heap[wr.heap.size]? = some (.cells #[.int .i64 s1, .int .i64 p1, .int .i64 n1] 82 (0, 0))) := HX6.out
          have HFR := Lib.hid (free_any (w.heap.size + 1) NB (m + 1) m nx (S0 fr L cs m) q0 (w6.drewN nd) HWY.out HQ0.out.1 HMM.out.2 HOW7.out.way)
          obtain ⟨W7, hW7⟩ : ∃ W, w6.drewN nd = W := ⟨_, rfl⟩
          rw [hW7] at HFR HOW7 HX7
          rw [hW7]
          clear hW7 HSE HOW6 HX6
          go_wp2_with fail
          refine HFR.out.mono ?_
          rintro e w8 ⟨i, nx8, rfl, hfree, hw8, ho8, hg8⟩
          have hx8 := (hg8.block _ (lt_of_block HX7.out) (fun e => by have := Option.some.inj e; have := HNBX.out; omega)).trans HX7.out
          have HS3 : Hid (O3Rel w.heap.size (w.heap.size + 1) LB NB m wr.heap.size #[.int .i64 id, .int .i64 fr, .slice (some ax) a pc, .slice C nn cc] fr L ⟨s1, p1, n1⟩ cs q0 w (.int .i64 (i : Int)) w8) := by
            refine ⟨i, nx8, hfree.2.1, hfree.1, rfl, ?_, ?_, ?_, hx8⟩
            · rw [s1_start hfree]; exact hfree.2.2.1
            · rw [s1_start hfree]; exact hw8
            · rw [lof_start hfree]; exact HOW7.out.ways hg8 ho8
          obtain ⟨X, hX⟩ : ∃ X, wr.heap.size = X := ⟨_, rfl⟩
          rw [hX] at HS3 HNBX
          rw [hX]
          clear hfree hw8 ho8 hg8 hx8 HFR HOW7 HX7 HOW HWY hX
          go_wp2_with fail
          go_loopw [12] (fun v W => O3Rel w.heap.size (w.heap.size + 1) LB NB m X #[.int .i64 id, .int .i64 fr, .slice (some ax) a pc, .slice C nn cc] fr L ⟨s1, p1, n1⟩ cs q0 w v W) (fun v _ => m - (intOf v).toNat)
          case atStart => exact HS3.out
          case round =>
            obtain ⟨j, nx, hjm, hij, rfl, hs, hways, how, hxr⟩ := hrel
            have HWY := Lib.hid hways
            have HOW := Lib.hid how
            have HXR := Lib.hid hxr
            have HSJ := Lib.hid hs
            have HIJ := Lib.hid hij
            have hcc : wr.cell? ⟨CB, j, none⟩ = some (.int .i64 (cut cs j)) := by
              rw [(owns_kept HC.out HOW.out.below).cellAt j (by omega), List.getElem?_map]
              unfold cut
              rw [List.getElem?_eq_getElem (by rw [HM.out]; omega)]; rfl
            have hj0 : (0 : Int) ≤ (j : Int) := by omega
            have hjl : (j : Int) < ((m + 1 : Nat) : Int) := by omega
            have hjl2 : (j : Int) < (m : Int) + 1 := by omega
            obtain ⟨cj, hcj⟩ : ∃ v, cut cs j = v := ⟨_, rfl⟩
            have HCJ := Lib.hid hcj
            rw [hcj] at hcc
            obtain ⟨tt, htt⟩ : ∃ v, tW fr ⟨s1, p1, n1⟩ = v := ⟨_, rfl⟩
            have HTT := Lib.hid htt
            clear hways how hxr hs hij HS3 hcj
            by_cases hct : cj < tt
            · have hjm2 : j < m := by
                rcases Nat.lt_or_ge j m with h | h
                · exact h
                · have e1 : j = m := by omega
                  have e2 := cut_end HCS.out HM.out
                  have e3 := (tW_in (x := ⟨s1, p1, n1⟩) HNX.out (show 0 ≤ fr by have := HF.out; omega)).2
                  rw [← e1, HCJ.out] at e2
                  rw [HTT.out] at e3
                  omega
              obtain ⟨z, hzj, _, _, hz3, _, _⟩ := HWY.out.2.2 j hjm
              obtain rfl := hz3 HSJ.out
              have hw1 : IntKind.i64.wrap ((z : Int) + 1) = (z : Int) + 1 := IntWalk.i64_in _ (by have := HMM.out; omega)
              have hlen : (LofI fr L ⟨s1, p1, n1⟩ cs m q0 z).length = m := by simp [LofI]
              have hl1 : wr.cell? ⟨LB, z, none⟩ = some (.int .i64 ((LofI fr L ⟨s1, p1, n1⟩ cs m q0 z)[z]'(by rw [hlen]; exact hjm2))) := by
                rw [HOW.out.own.cellAt z (by omega), List.getElem?_map, List.getElem?_eq_getElem (by rw [hlen]; exact hjm2)]; rfl
              have hf1 := HOW.out.own.frozenAt z
              have hst1 := HOW.out.own.stored z (.int .i64 s1)
              rw [← List.map_set] at hst1
              have HO1 := Lib.hid (HOW.out.owners hst1.2 hst1.1)
              have hl2 : (wr.setCell ⟨LB, z, none⟩ (.int .i64 s1)).cell? ⟨NB, z, none⟩ = some (.int .i64 (z : Int)) := by
                rw [HO1.out.way.cellAt z (by omega), List.getElem?_map, hzj]; rfl
              have hf2 := HO1.out.way.frozenAt z
              have hst2 := HO1.out.way.stored z (.int .i64 ((z : Int) + 1))
              rw [← List.map_set] at hst2
              have HO2 := Lib.hid (HO1.out.ways hst2.2 hst2.1)
              have hxr2 : ((wr.setCell ⟨LB, z, none⟩ (.int .i64 s1)).setCell ⟨NB, z, none⟩ (.int .i64 ((z : Int) + 1))).heap[X]? = some (.cells (winC ⟨s1, p1, n1⟩) 82 (0, 0)) :=
                (hst2.2.block X (by have := hst1.2.size; have := lt_of_block HXR.out; omega) (fun e => by have := Option.some.inj e; have := HNBX.out; omega)).trans ((hst1.2.block X (lt_of_block HXR.out) (fun e => by have := Option.some.inj e; have := HNBX.out; omega)).trans HXR.out)
              have HXR2 := Lib.hid hxr2
              have x0 := cell_of_row _ _ 0 _ _ _ HXR.out
              unfold winC at x0
              simp only [List.getElem?_toArray, List.getElem?_cons_zero] at x0
              have HFR2 := Lib.hid (free_any (w.heap.size + 1) NB (m + 1) m (nx.set z ((z : Int) + 1)) (fun q => S1 fr L cs m q0 z (tW fr ⟨s1, p1, n1⟩) q || q == z) z ((wr.setCell ⟨LB, z, none⟩ (.int .i64 s1)).setCell ⟨NB, z, none⟩ (.int .i64 ((z : Int) + 1))) (ways_take HWY.out hjm2 HSJ.out) (by omega) HMM.out.2 HO2.out.way)
              have hjm3 : (z : Int) < (m : Int) := by omega
              have HJ3 := Lib.hid hjm2
              have HLT := Lib.hid hct
              clear hst1 hst2 hxr2 hzj hz3
              go_wp2_with fail
              refine HFR2.out.mono ?_
              rintro e w9 ⟨j2, nx9, rfl, hfree, hw9, ho9, hg9⟩
              have hcz : cut cs z < tW fr ⟨s1, p1, n1⟩ := by rw [HCJ.out, HTT.out]; exact HLT.out
              obtain ⟨hse, hlt2⟩ := s1_step HIJ.out HJ3.out hcz hfree HSJ.out
              have hlo := lof_step HIJ.out HJ3.out hcz hfree HSJ.out hlt2
              have hfr := congrFun hse j2
              rw [hse] at hw9
              have h9 := HO2.out.ways hg9 ho9
              rw [hlo] at h9
              have HW9 := Lib.hid hw9
              have HO9 := Lib.hid h9
              have hx9 := (hg9.block X (lt_of_block HXR2.out) (fun e => by have := Option.some.inj e; have := HNBX.out; omega)).trans HXR2.out
              have HX9 := Lib.hid hx9
              have HF9 : Hid (S1 fr L cs m q0 j2 (tW fr ⟨s1, p1, n1⟩) j2 = false ∧ j2 ≤ m ∧ q0 ≤ j2 ∧ z < j2) := ⟨by rw [← hfr]; exact hfree.2.2.1, hfree.2.1, by have := HIJ.out; omega, hlt2⟩
              clear hse hlo hfr h9 hx9 hw9 ho9 hg9 hfree hlt2 hcz
              go_wp2
              go_roundw
              case rel => exact ⟨.int .i64 (j2 : Int), _, _, _, _, _, _, _, _, _, _, _, _, _, _, _, _, _, _, _, ⟨j2, nx9, HF9.out.2.1, HF9.out.2.2.1, rfl, HF9.out.1, HW9.out, HO9.out, HX9.out⟩, by rw [HTT.out]⟩
              case measure => have := HF9.out; have := HJ3.out; simp [intOf]; omega
            · have hnc : ¬ cut cs j < tW fr ⟨s1, p1, n1⟩ := by rw [HCJ.out, HTT.out]; exact hct
              have hf0 : 0 ≤ fr := by have := HF.out; omega
              have HLE := Lib.hid (lof_end (l := L) HCS.out HM.out HNX.out hf0 hjm HQ0.out.1 HQ0.out.2 hnc HIJ.out)
              have HSE : Hid (S1 fr L cs m q0 j (tW fr ⟨s1, p1, n1⟩) = S0 fr (L ++ [⟨s1, p1, n1⟩]) cs m) := by
                show _ = _
                funext q
                rcases Nat.lt_or_ge m q with hq | hq
                · unfold S1 S0
                  rw [decide_eq_false (show ¬ q < m by omega), decide_eq_false (show ¬ q < j by omega)]; simp
                · exact (s1_end (l := L) HCS.out HM.out HNX.out hf0 hjm HQ0.out.1 HQ0.out.2 hnc HIJ.out q hq).1
              rw [HLE.out] at HOW
              rw [HSE.out] at HWY
              clear hnc hf0
              go_wp2
              go_roundw
              case rel => exact ⟨_, _, _, _, _, .int .i64 ((k : Int) + 1), ⟨k + 1, nx, by have := HA.out; omega, by go_num, by rw [HTK.out]; exact HWY.out, by rw [HTK.out]; exact HOW.out⟩, rfl, rfl, rfl, rfl, rfl, rfl⟩
              case measure => simp [intOf]; omega
        · obtain rfl : k = a := by omega
          rw [List.take_of_length_le (by rw [HA.out]; exact Nat.le_refl _)] at HOW
          clear HWY
          go_wp2
          go_ret
          exact ⟨LB, rfl, row_base HOW.out.own (by omega), HOW.out.below⟩
end Go.Proofs.YtpjillclladjaaaDoor.Win
