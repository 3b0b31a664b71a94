/- Windows: their order, and plain arithmetic. It says nothing of the program. No condition. Windows: ticks, whose each is, and rows of ticks between cuts. It says nothing of the program. No condition. -/
import Derived.Test.YtpjillclladjaaaDoorMg09
import Derived.Shelf.SlSortCmp.Insertion
import Derived.Lib.SlicesCompact
namespace Go.Proofs.YtpjillclladjaaaDoor.Win

open Go.RowKit Go.PlainAid Go.Proofs.YtpjillclladjaaaDoor.Oct Go.Proofs.YtpjillclladjaaaDoor.Flt Go.Proofs.YtpjillclladjaaaDoor.Rdr Go.Proofs.YtpjillclladjaaaDoor.Args

open Go.Proofs.YtpjillclladjaaaDoor.Act (A3 actL flatA ActsAt I64 Wide)

open Go.Sort (SWO)

set_option linter.unusedVariables false

instance instA3 : Inhabited A3 := ⟨⟨0, 0, 0⟩⟩
/-- A window: an id (s), an offset (p), a length (a). -/
def lessW (x y : A3) : Bool := if x.p = y.p then (if x.a = y.a then decide (x.s < y.s) else decide (x.a < y.a)) else decide (x.p < y.p)
def or3 (x y z : Int) : Int := if x = 0 then (if y = 0 then z else y) else x
def cmpW (x y : A3) : Int := or3 (Lib.compareInt x.p y.p) (Lib.compareInt x.a y.a) (Lib.compareInt x.s y.s)
theorem cmpI (a b : Int) : (a < b ∧ Lib.compareInt a b = -1) ∨ (a = b ∧ Lib.compareInt a b = 0) ∨ (b < a ∧ Lib.compareInt a b = 1) := by
  unfold Lib.compareInt
  rcases Int.lt_trichotomy a b with h | h | h
  · exact .inl ⟨h, by rw [if_pos h]⟩
  · exact .inr (.inl ⟨h, by rw [if_neg (by omega), if_neg (by omega)]⟩)
  · exact .inr (.inr ⟨h, by rw [if_neg (by omega), if_pos h]⟩)
theorem lt_cmp (x y : A3) : ltOf cmpW x y = lessW x y := by
  unfold ltOf cmpW lessW or3
  rcases cmpI x.p y.p with ⟨h, e⟩ | ⟨h, e⟩ | ⟨h, e⟩ <;> rw [e]
  · rw [if_neg (by omega : ¬ x.p = y.p)]; simp [h]
  · rw [if_pos h, if_pos rfl]
    rcases cmpI x.a y.a with ⟨h2, e2⟩ | ⟨h2, e2⟩ | ⟨h2, e2⟩ <;> rw [e2]
    · rw [if_neg (by omega : ¬ x.a = y.a)]; simp [h2]
    · rw [if_pos h2, if_pos rfl]
      rcases cmpI x.s y.s with ⟨h3, e3⟩ | ⟨h3, e3⟩ | ⟨h3, e3⟩ <;> rw [e3]
      · simp [h3]
      · simp [h3]
      · simp; omega
    · rw [if_neg (by omega : ¬ x.a = y.a)]; simp; omega
  · rw [if_neg (by omega : ¬ x.p = y.p)]; simp; omega
theorem lessW_iff (x y : A3) : lessW x y = true ↔ (x.p < y.p ∨ x.p = y.p ∧ (x.a < y.a ∨ x.a = y.a ∧ x.s < y.s)) := by
  unfold lessW
  split
  · split
    · simp; omega
    · simp; omega
  · simp; omega
theorem lessW_not (x y : A3) : lessW x y = false ↔ ¬ (x.p < y.p ∨ x.p = y.p ∧ (x.a < y.a ∨ x.a = y.a ∧ x.s < y.s)) := by
  rw [← lessW_iff]; simp
theorem swoW : SWO (ltOf cmpW) where
  irrefl x := by rw [lt_cmp, lessW_not]; omega
  trans x y z h1 h2 := by rw [lt_cmp, lessW_iff] at *; omega
  ntrans x y z h1 h2 := by rw [lt_cmp, lessW_not] at *; omega
theorem totalW (x y : A3) (h1 : ltOf cmpW x y = false) (h2 : ltOf cmpW y x = false) : x = y := by
  rw [lt_cmp, lessW_not] at h1 h2
  obtain ⟨a, b, c⟩ := x
  obtain ⟨d, e, f⟩ := y
  simp at h1 h2 ⊢
  omega
/-- A row with one more, as the document lays it. -/
def insW (x : A3) : List A3 → List A3
  | [] => [x]
  | y :: l => if lessW x y then x :: y :: l else y :: insW x l
def anyW (x : A3) (l : List A3) : Bool := l.any (lessW x)
theorem ins_none (x : A3) : ∀ l, anyW x l = false → insW x l = l ++ [x]
  | [], _ => rfl
  | y :: l, h => by
    simp [anyW] at h
    rw [insW, if_neg (by rw [h.1]; simp), ins_none x l (by simp [anyW]; exact h.2)]; rfl
theorem ins_snoc (x y : A3) : ∀ l, anyW x l = true → insW x (l ++ [y]) = insW x l ++ [y]
  | [], h => by simp [anyW] at h
  | z :: l, h => by
    rw [List.cons_append, insW, insW]
    by_cases hz : lessW x z
    · rw [if_pos hz, if_pos hz]; rfl
    · rw [if_neg hz, if_neg hz, ins_snoc x y l (by simp [anyW] at h ⊢; simpa [hz] using h)]; rfl
theorem ins_here (x y : A3) : ∀ l, anyW x l = false → lessW x y = true → insW x (l ++ [y]) = l ++ [x, y]
  | [], _, hy => by simp [insW, hy]
  | z :: l, h, hy => by
    simp [anyW] at h
    rw [List.cons_append, insW, if_neg (by rw [h.1]; simp), ins_here x y l (by simp [anyW]; exact h.2) hy]; rfl
theorem any_snoc (x y : A3) (l : List A3) : anyW x (l ++ [y]) = (anyW x l || lessW x y) := by simp [anyW]
/-- The document's row behind so many of l's. -/
def nxW (x : A3) (l : List A3) : List A3 := if anyW x l then insW x l else l
theorem nx_end (x : A3) (l : List A3) : insW x l = if anyW x l then nxW x l else nxW x l ++ [x] := by
  unfold nxW
  cases h : anyW x l
  · simp [ins_none x l h]
  · simp
theorem nx_step (x y : A3) (l : List A3) : nxW x (l ++ [y]) = (if !anyW x l && lessW x y then nxW x l ++ [x] else nxW x l) ++ [y] := by
  unfold nxW
  rw [any_snoc]
  cases h : anyW x l
  · cases hy : lessW x y
    · simp
    · simp [ins_here x y l h hy]
  · simp [ins_snoc x y l h]
def sortW (l : List A3) : List A3 := l.foldl (fun o x => insW x o) []
theorem sort_snoc (l : List A3) (x : A3) : sortW (l ++ [x]) = insW x (sortW l) := by simp [sortW]
theorem ins_perm (x : A3) : ∀ l, (insW x l).Perm (x :: l)
  | [] => List.Perm.refl _
  | y :: l => by
    rw [insW]
    split
    · exact List.Perm.refl _
    · exact ((ins_perm x l).cons y).trans (List.Perm.swap x y l)
theorem ins_len (x : A3) (l : List A3) : (insW x l).length = l.length + 1 := by rw [(ins_perm x l).length_eq]; rfl
theorem ins_sorted (x : A3) : ∀ l, l.Pairwise (fun a b => lessW b a = false) → (insW x l).Pairwise (fun a b => lessW b a = false)
  | [], _ => by simp [insW]
  | y :: l, h => by
    rw [List.pairwise_cons] at h
    rw [insW]
    split
    · rename_i hx
      rw [List.pairwise_cons, List.pairwise_cons]
      refine ⟨fun a ha => ?_, h⟩
      rcases List.mem_cons.1 ha with rfl | ha
      · rw [lessW_iff] at hx; rw [lessW_not]; omega
      · have := h.1 a ha
        rw [lessW_iff] at hx; rw [lessW_not] at this ⊢; omega
    · rename_i hx
      rw [List.pairwise_cons]
      refine ⟨fun a ha => ?_, ins_sorted x l h.2⟩
      rcases List.mem_cons.1 ((ins_perm x l).mem_iff.1 ha) with rfl | ha
      · simpa using hx
      · exact h.1 a ha
theorem sort_ok : ∀ (l acc : List A3), acc.Pairwise (fun a b => lessW b a = false) → (l.foldl (fun o x => insW x o) acc).Perm (acc ++ l) ∧ (l.foldl (fun o x => insW x o) acc).Pairwise (fun a b => lessW b a = false)
  | [], acc, h => by simpa using h
  | x :: l, acc, h => by
    obtain ⟨h1, h2⟩ := sort_ok l (insW x acc) (ins_sorted x acc h)
    refine ⟨?_, h2⟩
    exact h1.trans (((ins_perm x acc).append_right l).trans (by simpa using (List.perm_middle (a := x) (l₁ := acc) (l₂ := l)).symm))
theorem sort_eq (l : List A3) : l.mergeSort (fun x y => !ltOf cmpW y x) = sortW l := by
  have hf : (fun x y => !ltOf cmpW y x) = fun x y : A3 => !lessW y x := by funext x y; rw [lt_cmp]
  rw [hf]
  obtain ⟨h1, h2⟩ := sort_ok l [] List.Pairwise.nil
  refine List.Perm.eq_of_pairwise (le := fun a b => lessW b a = false) ?_ ?_ h2 ((List.mergeSort_perm _ _).trans (by simpa [sortW] using h1.symm))
  · intro a b _ _ h3 h4
    exact totalW a b (by rw [lt_cmp]; exact h4) (by rw [lt_cmp]; exact h3)
  · have := List.pairwise_mergeSort (le := fun x y : A3 => !lessW y x) (fun a b c h3 h4 => by simp at h3 h4 ⊢; rw [lessW_not] at *; omega) (fun a b => by
      cases h3 : lessW b a
      · simp
      · simp; rw [lessW_iff] at h3; rw [lessW_not]; omega) l
    refine this.imp fun {a b} h3 => ?_
    simpa using h3
theorem sort_len (l : List A3) : (sortW l).length = l.length := by
  have := (sort_ok l [] List.Pairwise.nil).1.length_eq
  simpa [sortW] using this
/-- Have two windows a tick in common? -/
def touchB (a b : A3) : Bool := if a.a < 1 ∨ b.a < 1 then false else decide (max a.p b.p < min (a.p + a.a) (b.p + b.a))
/-- Is one of the ticks from a on, so many, one of b's? -/
def bothB (a b : A3) (n : Nat) : Bool := (List.range n).any fun j => decide (b.p ≤ a.p + (j : Int)) && decide (a.p + (j : Int) < b.p + b.a)
theorem both_succ (a b : A3) (n : Nat) : bothB a b (n + 1) = (bothB a b n || (decide (b.p ≤ a.p + (n : Int)) && decide (a.p + (n : Int) < b.p + b.a))) := by
  unfold bothB; rw [List.range_succ]; simp
theorem touch_both (a b : A3) (h : 0 ≤ a.a) : bothB a b a.a.toNat = touchB a b := by
  unfold touchB
  cases hb : bothB a b a.a.toNat
  · have : ∀ j : Nat, j < a.a.toNat → ¬ (b.p ≤ a.p + (j : Int) ∧ a.p + (j : Int) < b.p + b.a) := by
      intro j hj
      simp only [bothB, List.any_eq_false, List.mem_range] at hb
      have := hb j hj
      simpa using this
    split
    · rfl
    · rename_i hn
      refine (decide_eq_false ?_).symm
      intro hlt
      have h0 := this (max a.p b.p - a.p).toNat (by omega)
      apply h0
      omega
  · simp only [bothB, List.any_eq_true, List.mem_range] at hb
    obtain ⟨j, hj, hp⟩ := hb
    simp at hp
    rw [if_neg (by omega)]
    refine (decide_eq_true ?_).symm
    omega
theorem touch_comm (a b : A3) : touchB a b = touchB b a := by
  unfold touchB
  by_cases h : a.a < 1 ∨ b.a < 1
  · rw [if_pos h, if_pos (by omega)]
  · rw [if_neg h, if_neg (by omega)]
    congr 1
    rw [Int.max_comm, Int.min_comm]
end Go.Proofs.YtpjillclladjaaaDoor.Win
namespace Go.Proofs.YtpjillclladjaaaDoor.Win

open Go.RowKit Go.PlainAid Go.Proofs.YtpjillclladjaaaDoor.Oct Go.Proofs.YtpjillclladjaaaDoor.Flt Go.Proofs.YtpjillclladjaaaDoor.Rdr Go.Proofs.YtpjillclladjaaaDoor.Args

open Go.Proofs.YtpjillclladjaaaDoor.Act (A3 actL flatA ActsAt I64 Wide)

set_option linter.unusedVariables false

/-- A window's numbers may be. -/
def Num (x : A3) : Prop := 0 ≤ x.p ∧ x.p ≤ 1048576 ∧ 0 ≤ x.a ∧ x.a ≤ 1048576
def fW (fr : Int) (x : A3) : Int := if x.a < 1 then 0 else if fr ≤ x.p then 0 else x.p
def tW (fr : Int) (x : A3) : Int := if x.a < 1 then 0 else if fr ≤ x.p then 0 else if fr < x.p + x.a then fr else x.p + x.a
theorem fW_in {fr : Int} {x : A3} (hx : Num x) (hf : 0 ≤ fr) : 0 ≤ fW fr x ∧ fW fr x ≤ fr := by
  unfold fW Num at *
  split
  · omega
  · split <;> omega
theorem tW_in {fr : Int} {x : A3} (hx : Num x) (hf : 0 ≤ fr) : 0 ≤ tW fr x ∧ tW fr x ≤ fr := by
  unfold tW Num at *
  split
  · omega
  · split
    · omega
    · split <;> omega
/-- Is a tick one of a window's? -/
def hasB (fr : Int) (x : A3) (t : Int) : Bool := decide (fW fr x ≤ t) && decide (t < tW fr x)
def covB (fr : Int) (l : List A3) (t : Int) : Bool := l.any fun x => hasB fr x t
/-- Whose a tick is. -/
def ownT (fr : Int) : List A3 → Int → Int
  | [], _ => -1
  | x :: l, t => if hasB fr x t then x.s else ownT fr l t
theorem own_none (fr : Int) : ∀ (l : List A3) (t : Int), covB fr l t = false → ownT fr l t = -1
  | [], _, _ => rfl
  | x :: l, t, h => by
    simp [covB] at h
    rw [ownT, if_neg (by rw [h.1]; simp)]
    exact own_none fr l t (by simp [covB]; exact h.2)
theorem own_snoc (fr : Int) (x : A3) (t : Int) : ∀ l : List A3, ownT fr (l ++ [x]) t = if covB fr l t then ownT fr l t else if hasB fr x t then x.s else -1
  | [] => by simp [ownT, covB]
  | y :: l => by
    rw [List.cons_append, ownT, ownT]
    by_cases hy : hasB fr y t
    · rw [if_pos hy, if_pos hy, if_pos (by simp [covB, hy])]
    · rw [if_neg hy, if_neg hy, own_snoc fr x t l]
      simp [covB, hy]
theorem cov_snoc (fr : Int) (x : A3) (t : Int) (l : List A3) : covB fr (l ++ [x]) t = (covB fr l t || hasB fr x t) := by simp [covB]
/-- Places, from each of which a way leads to the next one that is free. -/
def Ways (nx : List Int) (S : Nat → Bool) (m : Nat) : Prop :=
  nx.length = m + 1 ∧ S m = false ∧ ∀ i, i ≤ m → ∃ j : Nat, nx[i]? = some (j : Int) ∧ i ≤ j ∧ j ≤ m ∧ (S i = false → j = i) ∧ (S i = true → i < j) ∧ ∀ q, i ≤ q → q < j → S q = true
/-- The first free place from i on. -/
def FreeAt (S : Nat → Bool) (m i j : Nat) : Prop := i ≤ j ∧ j ≤ m ∧ S j = false ∧ ∀ q, i ≤ q → q < j → S q = true
theorem ways_start (m : Nat) : Ways ((List.range (m + 1)).map fun i => ((i : Nat) : Int)) (fun _ => false) m := by
  refine ⟨by simp, rfl, fun i hi => ⟨i, ?_, Nat.le_refl _, hi, fun _ => rfl, fun h => by simp at h, fun q h1 h2 => by omega⟩⟩
  rw [List.getElem?_map, List.getElem?_range (by omega)]; rfl
/-- A way is made shorter. -/
theorem ways_short {nx : List Int} {S : Nat → Bool} {m i j k : Nat} (h : Ways nx S m) (hi : i ≤ m) (hj : nx[i]? = some (j : Int)) (hk : nx[j]? = some (k : Int)) : Ways (nx.set i (k : Int)) S m := by
  obtain ⟨h1, h2, h3⟩ := h
  refine ⟨by simpa using h1, h2, fun q hq => ?_⟩
  obtain ⟨j', e1, a1, a2, a3, a4, a5⟩ := h3 i hi
  obtain rfl : j' = j := by rw [hj] at e1; have := Option.some.inj e1; omega
  obtain ⟨k', e2, b1, b2, b3, b4, b5⟩ := h3 j' a2
  obtain rfl : k' = k := by rw [hk] at e2; have := Option.some.inj e2; omega
  by_cases hqi : q = i
  · subst hqi
    refine ⟨k', by rw [List.getElem?_set_self (by omega)], by omega, b2, fun hs => ?_, fun hs => ?_, fun r hr1 hr2 => ?_⟩
    · have := a3 hs; subst this; exact b3 hs
    · have := a4 hs; omega
    · rcases Nat.lt_or_ge r j' with hr | hr
      · exact a5 r hr1 hr
      · exact b5 r hr hr2
  · obtain ⟨z, e3, c1, c2, c3, c4, c5⟩ := h3 q hq
    exact ⟨z, by rw [List.getElem?_set_ne (fun e => hqi e.symm)]; exact e3, c1, c2, c3, c4, c5⟩
/-- A free place is taken. -/
theorem ways_take {nx : List Int} {S : Nat → Bool} {m i : Nat} (h : Ways nx S m) (hi : i < m) (hs : S i = false) : Ways (nx.set i ((i : Int) + 1)) (fun q => S q || q == i) m := by
  obtain ⟨h1, h2, h3⟩ := h
  refine ⟨by simpa using h1, by simp [h2]; omega, fun q hq => ?_⟩
  by_cases hqi : q = i
  · subst hqi
    refine ⟨q + 1, by rw [List.getElem?_set_self (by omega)]; simp, by omega, by omega, fun h => by simp at h, fun _ => by omega, fun r hr1 hr2 => ?_⟩
    have : r = q := by omega
    simp [this]
  · obtain ⟨z, e3, c1, c2, c3, c4, c5⟩ := h3 q hq
    refine ⟨z, by rw [List.getElem?_set_ne (fun e => hqi e.symm)]; exact e3, c1, c2, fun h => c3 (by simp at h; exact h.1), fun h => c4 (by simpa [hqi] using h), fun r hr1 hr2 => ?_⟩
    show (S r || r == i) = true
    rw [c5 r hr1 hr2]; rfl
/-- Cuts: they rise from 0 to the frame's end. -/
def Cuts (cs : List Int) (fr : Int) : Prop := cs.Pairwise (· < ·) ∧ (∀ v, v ∈ cs → 0 ≤ v ∧ v ≤ fr) ∧ (0 : Int) ∈ cs ∧ fr ∈ cs
theorem rising_lt {cs : List Int} (h : cs.Pairwise (· < ·)) {i j : Nat} (hij : i < j) (hj : j < cs.length) : cs[i]'(by omega) < cs[j] := List.pairwise_iff_getElem.1 h i j (by omega) hj hij
theorem cuts_first {cs : List Int} {fr : Int} (h : Cuts cs fr) : cs[0]? = some 0 := by
  obtain ⟨h1, h2, h3, h4⟩ := h
  obtain ⟨i, hi, e⟩ := List.mem_iff_getElem.1 h3
  rcases Nat.eq_zero_or_pos i with rfl | hp
  · rw [List.getElem?_eq_getElem hi, e]
  · have := rising_lt h1 hp hi
    have := (h2 _ (List.getElem_mem (show 0 < cs.length by omega))).1
    omega
theorem cuts_last {cs : List Int} {fr : Int} {m : Nat} (h : Cuts cs fr) (hm : cs.length = m + 1) : cs[m]? = some fr := by
  obtain ⟨h1, h2, h3, h4⟩ := h
  obtain ⟨i, hi, e⟩ := List.mem_iff_getElem.1 h4
  rcases (show i = m ∨ i < m by omega) with rfl | hp
  · rw [List.getElem?_eq_getElem hi, e]
  · have := rising_lt h1 hp (show m < cs.length by omega)
    have := (h2 _ (List.getElem_mem (show m < cs.length by omega))).2
    omega
/-- What ticks tell, together, from place to place. -/
def segSum (g : Int → Int) : List Int → Int
  | a :: b :: l => g a * (b - a) + segSum g (b :: l)
  | _ => 0
def tickSum (g : Int → Int) (a : Int) (n : Nat) : Int := ((List.range n).map fun j : Nat => g (a + (j : Int))).sum
theorem tick_succ (g : Int → Int) (a : Int) (n : Nat) : tickSum g a (n + 1) = tickSum g a n + g (a + (n : Int)) := by
  unfold tickSum; rw [List.range_succ]; simp
theorem tick_add (g : Int → Int) (a : Int) (n : Nat) : ∀ k, tickSum g a (n + k) = tickSum g a n + tickSum g (a + (n : Int)) k
  | 0 => by simp [tickSum]
  | k + 1 => by
    rw [← Nat.add_assoc, tick_succ, tick_add g a n k, tick_succ]
    rw [show a + ((n + k : Nat) : Int) = a + (n : Int) + (k : Int) by omega]
    omega
theorem tick_const (g : Int → Int) (a c : Int) : ∀ n : Nat, (∀ j : Nat, j < n → g (a + (j : Int)) = c) → tickSum g a n = c * (n : Int)
  | 0, _ => by simp [tickSum]
  | n + 1, h => by
    rw [tick_succ, tick_const g a c n (fun j hj => h j (by omega)), h n (by omega)]
    rw [show ((n + 1 : Nat) : Int) = (n : Int) + 1 by omega, Int.mul_add, Int.mul_one]
/-- Where what is told does not change within a segment, the segments tell what the ticks do. -/
theorem seg_tick (g : Int → Int) : ∀ (l : List Int) (a : Int), (a :: l).Pairwise (· < ·) → (∀ i u v, (a :: l)[i]? = some u → (a :: l)[i + 1]? = some v → ∀ t, u ≤ t → t < v → g t = g u) → segSum g (a :: l) = tickSum g a ((a :: l).getLast (by simp) - a).toNat
  | [], a, _, _ => by simp [segSum, tickSum]
  | b :: l, a, h, hc => by
    have hab : a < b := by rw [List.pairwise_cons] at h; exact h.1 b (by simp)
    have ih := seg_tick g l b (by rw [List.pairwise_cons] at h; exact h.2) (fun i u v hu hv => hc (i + 1) u v (by simpa using hu) (by simpa using hv))
    have hlast : b ≤ (b :: l).getLast (by simp) := by
      rw [List.pairwise_cons] at h
      rcases l with _ | ⟨c, l⟩
      · simp
      · have := (List.pairwise_cons.1 h.2).1 ((b :: c :: l).getLast (by simp)) (by
          rw [List.getLast_cons (by simp)]; exact List.getLast_mem _)
        omega
    have e1 : (a :: b :: l).getLast (by simp) = (b :: l).getLast (by simp) := List.getLast_cons (by simp)
    rw [segSum, ih, e1]
    have e2 : ((b :: l).getLast (by simp) - a).toNat = (b - a).toNat + ((b :: l).getLast (by simp) - b).toNat := by omega
    rw [e2, tick_add]
    have e3 : a + ((b - a).toNat : Int) = b := by omega
    rw [e3, tick_const g a (g a) (b - a).toNat (fun j hj => hc 0 a b rfl rfl (a + (j : Int)) (by omega) (by omega))]
    rw [show ((b - a).toNat : Int) = b - a by omega]
/-- What is left of numbers that rise, each once. -/
theorem compact_rises (zs : List Int) (h : zs.Pairwise (· ≤ ·)) : (Lib.compact zs).Pairwise (· < ·) ∧ ∀ v, v ∈ Lib.compact zs ↔ v ∈ zs := by
  have hget : ∀ i, i < zs.length → zs.toArray[i]! = zs[i]! := fun i hi => by simp [getElem!_pos, hi]
  have hle : ∀ i j, i ≤ j → j < zs.length → zs[i]! ≤ zs[j]! := fun i j hij hj => by
    rcases Nat.lt_or_ge i j with h1 | h1
    · have := List.pairwise_iff_getElem.1 h i j (by omega) hj h1
      rw [getElem!_pos zs i (by omega), getElem!_pos zs j hj]
      exact this
    · obtain rfl : i = j := by omega
      exact Int.le_refl _
  unfold Lib.compact Lib.compactUpTo
  refine ⟨?_, fun v => ?_⟩
  · rw [List.pairwise_map, List.pairwise_filter]
    refine (List.pairwise_lt_range).imp_of_mem fun {i j} hi hj hij ki kj => ?_
    have hi' := List.mem_range.1 hi
    have hj' := List.mem_range.1 hj
    rw [hget i hi', hget j hj']
    unfold Lib.keeps at kj
    have hk := of_decide_eq_true kj
    rcases hk with hk | hk
    · omega
    · rw [hget j hj', hget (j - 1) (by omega)] at hk
      have h1 := hle i (j - 1) (by omega) (by omega)
      have h2 := hle (j - 1) j (by omega) hj'
      omega
  · rw [List.mem_map]
    constructor
    · rintro ⟨i, hi, rfl⟩
      have hi' := List.mem_range.1 (List.mem_filter.1 hi).1
      rw [hget i hi', getElem!_pos zs i hi']
      exact List.getElem_mem hi'
    · intro hv
      obtain ⟨i, hi, e⟩ := List.mem_iff_getElem.1 hv
      have : ∀ n, ∀ i, i ≤ n → i < zs.length → zs[i]! = v → ∃ j, j ∈ (List.range zs.length).filter (Lib.keeps zs.toArray) ∧ zs.toArray[j]! = v := by
        intro n
        induction n with
        | zero =>
          intro i h0 h1 h2
          obtain rfl : i = 0 := by omega
          exact ⟨0, List.mem_filter.2 ⟨List.mem_range.2 h1, by simp [Lib.keeps]⟩, by rw [hget 0 h1]; exact h2⟩
        | succ n ih =>
          intro i h0 h1 h2
          by_cases hk : Lib.keeps zs.toArray i = true
          · exact ⟨i, List.mem_filter.2 ⟨List.mem_range.2 h1, hk⟩, by rw [hget i h1]; exact h2⟩
          · have hk2 : ¬ (i = 0 ∨ zs.toArray[i]! ≠ zs.toArray[i - 1]!) := by simpa [Lib.keeps] using hk
            have hi0 : ¬ i = 0 := fun h => hk2 (.inl h)
            have he : zs.toArray[i]! = zs.toArray[i - 1]! := by
              apply Classical.byContradiction
              exact fun h => hk2 (.inr h)
            rw [hget i h1, hget (i - 1) (by omega)] at he
            exact ih (i - 1) (by omega) (by omega) (by rw [← he]; exact h2)
      exact this i i (Nat.le_refl _) hi (by rw [getElem!_pos zs i hi]; exact e)
end Go.Proofs.YtpjillclladjaaaDoor.Win
