
/- Windows: their order, and plain arithmetic. It says nothing of the program. No condition. -/

import Derived.Test.YtpjillclladjaaaDoorActM

import Derived.Shelf.SlSortCmp.Insertion

namespace Go.Proofs.YtpjillclladjaaaDoor.Win

open Go.RowKit Go.PlainAid Go.Proofs.YtpjillclladjaaaDoor.Oct Go.Proofs.YtpjillclladjaaaDoor.Flt Go.Proofs.YtpjillclladjaaaDoor.Rdr Go.Proofs.YtpjillclladjaaaDoor.Args

open Go.Proofs.YtpjillclladjaaaDoor.Act (A3 actL flatA ActsAt I64 Wide)

open Go.Sort (SWO)

set_option linter.unusedVariables false

instance instA3 : Inhabited A3 := ⟨⟨0, 0, 0⟩⟩
/-- A window: an id (s), an offset (p), a length (a). -/
def lessW (x y : A3) : Bool := if x.p = y.p then (if x.a = y.a then decide (x.s < y.s) else decide (x.a < y.a)) else decide (x.p < y.p)
def or3 (x y z : Int) : Int := if x = 0 then (if y = 0 then z else y) else x
def cmpW (x y : A3) : Int := or3 (Lib.compareInt x.p y.p) (Lib.compareInt x.a y.a) (Lib.compareInt x.s y.s)
theorem cmpI (a b : Int) : (a < b ∧ Lib.compareInt a b = -1) ∨ (a = b ∧ Lib.compareInt a b = 0) ∨ (b < a ∧ Lib.compareInt a b = 1) := by
  unfold Lib.compareInt
  rcases Int.lt_trichotomy a b with h | h | h
  · exact .inl ⟨h, by rw [if_pos h]⟩
  · exact .inr (.inl ⟨h, by rw [if_neg (by omega), if_neg (by omega)]⟩)
  · exact .inr (.inr ⟨h, by rw [if_neg (by omega), if_pos h]⟩)
theorem lt_cmp (x y : A3) : ltOf cmpW x y = lessW x y := by
  unfold ltOf cmpW lessW or3
  rcases cmpI x.p y.p with ⟨h, e⟩ | ⟨h, e⟩ | ⟨h, e⟩ <;> rw [e]
  · rw [if_neg (by omega : ¬ x.p = y.p)]; simp [h]
  · rw [if_pos h, if_pos rfl]
    rcases cmpI x.a y.a with ⟨h2, e2⟩ | ⟨h2, e2⟩ | ⟨h2, e2⟩ <;> rw [e2]
    · rw [if_neg (by omega : ¬ x.a = y.a)]; simp [h2]
    · rw [if_pos h2, if_pos rfl]
      rcases cmpI x.s y.s with ⟨h3, e3⟩ | ⟨h3, e3⟩ | ⟨h3, e3⟩ <;> rw [e3]
      · simp [h3]
      · simp [h3]
      · simp; omega
    · rw [if_neg (by omega : ¬ x.a = y.a)]; simp; omega
  · rw [if_neg (by omega : ¬ x.p = y.p)]; simp; omega
theorem lessW_iff (x y : A3) : lessW x y = true ↔ (x.p < y.p ∨ x.p = y.p ∧ (x.a < y.a ∨ x.a = y.a ∧ x.s < y.s)) := by
  unfold lessW
  split
  · split
    · simp; omega
    · simp; omega
  · simp; omega
theorem lessW_not (x y : A3) : lessW x y = false ↔ ¬ (x.p < y.p ∨ x.p = y.p ∧ (x.a < y.a ∨ x.a = y.a ∧ x.s < y.s)) := by
  rw [← lessW_iff]; simp
theorem swoW : SWO (ltOf cmpW) where
  irrefl x := by rw [lt_cmp, lessW_not]; omega
  trans x y z h1 h2 := by rw [lt_cmp, lessW_iff] at *; omega
  ntrans x y z h1 h2 := by rw [lt_cmp, lessW_not] at *; omega
theorem totalW (x y : A3) (h1 : ltOf cmpW x y = false) (h2 : ltOf cmpW y x = false) : x = y := by
  rw [lt_cmp, lessW_not] at h1 h2
  obtain ⟨a, b, c⟩ := x
  obtain ⟨d, e, f⟩ := y
  simp at h1 h2 ⊢
  omega
/-- A row with one more, as the document lays it. -/
def insW (x : A3) : List A3 → List A3
  | [] => [x]
  | y :: l => if lessW x y then x :: y :: l else y :: insW x l
def anyW (x : A3) (l : List A3) : Bool := l.any (lessW x)
theorem ins_none (x : A3) : ∀ l, anyW x l = false → insW x l = l ++ [x]
  | [], _ => rfl
  | y :: l, h => by
    simp [anyW] at h
    rw [insW, if_neg (by rw [h.1]; simp), ins_none x l (by simp [anyW]; exact h.2)]; rfl
theorem ins_snoc (x y : A3) : ∀ l, anyW x l = true → insW x (l ++ [y]) = insW x l ++ [y]
  | [], h => by simp [anyW] at h
  | z :: l, h => by
    rw [List.cons_append, insW, insW]
    by_cases hz : lessW x z
    · rw [if_pos hz, if_pos hz]; rfl
    · rw [if_neg hz, if_neg hz, ins_snoc x y l (by simp [anyW] at h ⊢; simpa [hz] using h)]; rfl
theorem ins_here (x y : A3) : ∀ l, anyW x l = false → lessW x y = true → insW x (l ++ [y]) = l ++ [x, y]
  | [], _, hy => by simp [insW, hy]
  | z :: l, h, hy => by
    simp [anyW] at h
    rw [List.cons_append, insW, if_neg (by rw [h.1]; simp), ins_here x y l (by simp [anyW]; exact h.2) hy]; rfl
theorem any_snoc (x y : A3) (l : List A3) : anyW x (l ++ [y]) = (anyW x l || lessW x y) := by simp [anyW]
/-- The document's row behind so many of l's. -/
def nxW (x : A3) (l : List A3) : List A3 := if anyW x l then insW x l else l
theorem nx_end (x : A3) (l : List A3) : insW x l = if anyW x l then nxW x l else nxW x l ++ [x] := by
  unfold nxW
  cases h : anyW x l
  · simp [ins_none x l h]
  · simp
theorem nx_step (x y : A3) (l : List A3) : nxW x (l ++ [y]) = (if !anyW x l && lessW x y then nxW x l ++ [x] else nxW x l) ++ [y] := by
  unfold nxW
  rw [any_snoc]
  cases h : anyW x l
  · cases hy : lessW x y
    · simp
    · simp [ins_here x y l h hy]
  · simp [ins_snoc x y l h]
def sortW (l : List A3) : List A3 := l.foldl (fun o x => insW x o) []
theorem sort_snoc (l : List A3) (x : A3) : sortW (l ++ [x]) = insW x (sortW l) := by simp [sortW]
theorem ins_perm (x : A3) : ∀ l, (insW x l).Perm (x :: l)
  | [] => List.Perm.refl _
  | y :: l => by
    rw [insW]
    split
    · exact List.Perm.refl _
    · exact ((ins_perm x l).cons y).trans (List.Perm.swap x y l)
theorem ins_len (x : A3) (l : List A3) : (insW x l).length = l.length + 1 := by rw [(ins_perm x l).length_eq]; rfl
theorem ins_sorted (x : A3) : ∀ l, l.Pairwise (fun a b => lessW b a = false) → (insW x l).Pairwise (fun a b => lessW b a = false)
  | [], _ => by simp [insW]
  | y :: l, h => by
    rw [List.pairwise_cons] at h
    rw [insW]
    split
    · rename_i hx
      rw [List.pairwise_cons, List.pairwise_cons]
      refine ⟨fun a ha => ?_, h⟩
      rcases List.mem_cons.1 ha with rfl | ha
      · rw [lessW_iff] at hx; rw [lessW_not]; omega
      · have := h.1 a ha
        rw [lessW_iff] at hx; rw [lessW_not] at this ⊢; omega
    · rename_i hx
      rw [List.pairwise_cons]
      refine ⟨fun a ha => ?_, ins_sorted x l h.2⟩
      rcases List.mem_cons.1 ((ins_perm x l).mem_iff.1 ha) with rfl | ha
      · simpa using hx
      · exact h.1 a ha
theorem sort_ok : ∀ (l acc : List A3), acc.Pairwise (fun a b => lessW b a = false) → (l.foldl (fun o x => insW x o) acc).Perm (acc ++ l) ∧ (l.foldl (fun o x => insW x o) acc).Pairwise (fun a b => lessW b a = false)
  | [], acc, h => by simpa using h
  | x :: l, acc, h => by
    obtain ⟨h1, h2⟩ := sort_ok l (insW x acc) (ins_sorted x acc h)
    refine ⟨?_, h2⟩
    exact h1.trans (((ins_perm x acc).append_right l).trans (by simpa using (List.perm_middle (a := x) (l₁ := acc) (l₂ := l)).symm))
theorem sort_eq (l : List A3) : l.mergeSort (fun x y => !ltOf cmpW y x) = sortW l := by
  have hf : (fun x y => !ltOf cmpW y x) = fun x y : A3 => !lessW y x := by funext x y; rw [lt_cmp]
  rw [hf]
  obtain ⟨h1, h2⟩ := sort_ok l [] List.Pairwise.nil
  refine List.Perm.eq_of_pairwise (le := fun a b => lessW b a = false) ?_ ?_ h2 ((List.mergeSort_perm _ _).trans (by simpa [sortW] using h1.symm))
  · intro a b _ _ h3 h4
    exact totalW a b (by rw [lt_cmp]; exact h4) (by rw [lt_cmp]; exact h3)
  · have := List.pairwise_mergeSort (le := fun x y : A3 => !lessW y x) (fun a b c h3 h4 => by simp at h3 h4 ⊢; rw [lessW_not] at *; omega) (fun a b => by
      cases h3 : lessW b a
      · simp
      · simp; rw [lessW_iff] at h3; rw [lessW_not]; omega) l
    refine this.imp fun {a b} h3 => ?_
    simpa using h3
theorem sort_len (l : List A3) : (sortW l).length = l.length := by
  have := (sort_ok l [] List.Pairwise.nil).1.length_eq
  simpa [sortW] using this
/-- Have two windows a tick in common? -/
def touchB (a b : A3) : Bool := if a.a < 1 ∨ b.a < 1 then false else decide (max a.p b.p < min (a.p + a.a) (b.p + b.a))
/-- Is one of the ticks from a on, so many, one of b's? -/
def bothB (a b : A3) (n : Nat) : Bool := (List.range n).any fun j => decide (b.p ≤ a.p + (j : Int)) && decide (a.p + (j : Int) < b.p + b.a)
theorem both_succ (a b : A3) (n : Nat) : bothB a b (n + 1) = (bothB a b n || (decide (b.p ≤ a.p + (n : Int)) && decide (a.p + (n : Int) < b.p + b.a))) := by
  unfold bothB; rw [List.range_succ]; simp
theorem touch_both (a b : A3) (h : 0 ≤ a.a) : bothB a b a.a.toNat = touchB a b := by
  unfold touchB
  cases hb : bothB a b a.a.toNat
  · have : ∀ j : Nat, j < a.a.toNat → ¬ (b.p ≤ a.p + (j : Int) ∧ a.p + (j : Int) < b.p + b.a) := by
      intro j hj
      simp only [bothB, List.any_eq_false, List.mem_range] at hb
      have := hb j hj
      simpa using this
    split
    · rfl
    · rename_i hn
      refine (decide_eq_false ?_).symm
      intro hlt
      have h0 := this (max a.p b.p - a.p).toNat (by omega)
      apply h0
      omega
  · simp only [bothB, List.any_eq_true, List.mem_range] at hb
    obtain ⟨j, hj, hp⟩ := hb
    simp at hp
    rw [if_neg (by omega)]
    refine (decide_eq_true ?_).symm
    omega
theorem touch_comm (a b : A3) : touchB a b = touchB b a := by
  unfold touchB
  by_cases h : a.a < 1 ∨ b.a < 1
  · rw [if_pos h, if_pos (by omega)]
  · rw [if_neg h, if_neg (by omega)]
    congr 1
    rw [Int.max_comm, Int.min_comm]
end Go.Proofs.YtpjillclladjaaaDoor.Win
