
/- Strips in plain words: rows (an owner, how many ticks), runs (an owner, the tick behind the last one). It says nothing of the program. No condition. -/

import Derived.Test.YtilkicbokfgjlaaDoorProg

import Derived.WalkKit

namespace Go.Proofs.YtilkicbokfgjlaaDoor.Stp

open Go.RowKit

set_option linter.unusedVariables false

structure RW where
  i : Int
  c : Int
deriving DecidableEq
def rwL (x : RW) : List Value := [.int .i64 x.i, .int .i64 x.c]
def flatR (l : List RW) : List Value := l.flatMap rwL
theorem flatR_len (l : List RW) : (flatR l).length = l.length * 2 := by
  induction l with
  | nil => rfl
  | cons x l ih => simp [flatR, rwL] at ih ⊢; omega
theorem flatR_get (L : List RW) : ∀ (i : Nat) (q : RW) (j : Nat), L[i]? = some q → j < 2 → (flatR L)[i * 2 + j]? = (rwL q)[j]? := by
  induction L with
  | nil => intro i x j h; simp at h
  | cons y l ih =>
    intro i x j h hj
    have e : flatR (y :: l) = rwL y ++ flatR l := rfl
    have ely : (rwL y).length = 2 := rfl
    cases i with
    | zero =>
      obtain rfl : y = x := by simpa using h
      rw [e, Nat.zero_mul, Nat.zero_add, List.getElem?_append_left (by omega)]
    | succ i =>
      have hx : l[i]? = some x := by simpa using h
      rw [e, List.getElem?_append_right (by omega), ← ih i x j hx hj, ely]
      congr 1
      omega
theorem flatR_snoc (l : List RW) (x : RW) : flatR (l ++ [x]) = flatR l ++ [.int .i64 x.i, .int .i64 x.c] := by simp [flatR, rwL]
theorem flatR_one (l : List RW) : ∀ v ∈ flatR l, v.oneCell' = true := by
  intro v hv
  obtain ⟨x, _, hx⟩ := List.mem_flatMap.1 hv
  simp [rwL] at hx
  rcases hx with rfl | rfl <;> rfl
theorem flatR_inj : ∀ {l m : List RW}, flatR l = flatR m → l = m
  | [], [], _ => rfl
  | [], y :: m, h => by simp [flatR, rwL] at h
  | x :: l, [], h => by simp [flatR, rwL] at h
  | x :: l, y :: m, h => by
    have h' : Value.int .i64 x.i :: Value.int .i64 x.c :: flatR l = Value.int .i64 y.i :: Value.int .i64 y.c :: flatR m := h
    injection h' with h1 h2
    injection h2 with h2 h3
    obtain ⟨a, b⟩ := x
    obtain ⟨c, d⟩ := y
    injection h1 with _ h1
    injection h2 with _ h2
    dsimp only at h1 h2
    subst h1 h2
    rw [flatR_inj h3]
def sumR : List RW → Int
  | [] => 0
  | x :: l => x.c + sumR l
theorem sumR_app (l m : List RW) : sumR (l ++ m) = sumR l + sumR m := by
  induction l with
  | nil => simp [sumR]
  | cons x l ih => simp only [List.cons_append, sumR, ih]; omega
theorem sumR_snoc (l : List RW) (x : RW) : sumR (l ++ [x]) = sumR l + x.c := by rw [sumR_app]; simp [sumR]
/-- The runs of rows, the first of which begins at a tick. -/
def runsF (a : Int) : List RW → List RW
  | [] => []
  | x :: l => ⟨x.i, a + x.c⟩ :: runsF (a + x.c) l
theorem runsF_len (l : List RW) : ∀ a, (runsF a l).length = l.length := by
  induction l with
  | nil => intro a; rfl
  | cons x l ih => intro a; simp [runsF, ih]
theorem runsF_app (l m : List RW) : ∀ a, runsF a (l ++ m) = runsF a l ++ runsF (a + sumR l) m := by
  induction l with
  | nil => intro a; simp [runsF, sumR]
  | cons x l ih => intro a; simp only [List.cons_append, runsF, ih, sumR]; rw [show a + x.c + sumR l = a + (x.c + sumR l) by omega]
theorem runsF_snoc (l : List RW) (x : RW) (a : Int) : runsF a (l ++ [x]) = runsF a l ++ [⟨x.i, a + sumR l + x.c⟩] := by rw [runsF_app]; rfl
theorem runsF_get (l : List RW) : ∀ (a : Int) (k : Nat) (x : RW), l[k]? = some x → (runsF a l)[k]? = some ⟨x.i, a + sumR (l.take (k + 1))⟩ := by
  induction l with
  | nil => intro a k x h; simp at h
  | cons y l ih =>
    intro a k x h
    cases k with
    | zero =>
      obtain rfl : y = x := by simpa using h
      simp [runsF, sumR]
    | succ k =>
      have hx : l[k]? = some x := by simpa using h
      simp only [runsF, List.getElem?_cons_succ, List.take_succ_cons, sumR]
      rw [ih _ _ _ hx]
      congr 2
      omega
theorem runsF_inj : ∀ (l m : List RW) (a : Int), runsF a l = runsF a m → l = m
  | [], [], _, _ => rfl
  | [], y :: m, a, h => by simp [runsF] at h
  | x :: l, [], a, h => by simp [runsF] at h
  | x :: l, y :: m, a, h => by
    simp only [runsF, List.cons.injEq, RW.mk.injEq] at h
    obtain ⟨⟨h1, h2⟩, h3⟩ := h
    have h4 : x.c = y.c := by omega
    rw [h4] at h3
    rw [runsF_inj l m _ h3]
    obtain ⟨a, b⟩ := x
    obtain ⟨c, d⟩ := y
    dsimp only at h1 h4
    rw [h1, h4]
theorem snoc_cases (l : List RW) : l = [] ∨ ∃ m x, l = m ++ [x] := by
  rcases List.eq_nil_or_concat l with h | ⟨m, x, h⟩
  · exact .inl h
  · exact .inr ⟨m, x, by simpa using h⟩
theorem snoc_ind {α : Type} {P : List α → Prop} (h0 : P []) (h1 : ∀ l x, P l → P (l ++ [x])) (l : List α) : P l := by
  have h : ∀ m : List α, P m.reverse := by
    intro m
    induction m with
    | nil => exact h0
    | cons x m ih => rw [List.reverse_cons]; exact h1 _ _ ih
  have := h l.reverse
  rwa [List.reverse_reverse] at this
/-- Ticks of an owner are put behind the others. -/
def joinX (X : List RW) (i n : Int) : List RW :=
  if n = 0 then X else
  match X.reverse with
  | [] => [⟨i, n⟩]
  | y :: r => if y.i = i then r.reverse ++ [⟨y.i, y.c + n⟩] else X ++ [⟨i, n⟩]
theorem join_zero (X : List RW) (i : Int) : joinX X i 0 = X := by simp [joinX]
theorem join_nil (i n : Int) (h : n ≠ 0) : joinX [] i n = [⟨i, n⟩] := by simp [joinX, h]
theorem join_snoc (X : List RW) (y : RW) (i n : Int) (h : n ≠ 0) : joinX (X ++ [y]) i n = if y.i = i then X ++ [⟨y.i, y.c + n⟩] else X ++ [y] ++ [⟨i, n⟩] := by simp [joinX, h]
theorem join_sum (X : List RW) (i n : Int) : sumR (joinX X i n) = sumR X + n := by
  by_cases h : n = 0
  · subst h; rw [join_zero]; omega
  · rcases snoc_cases X with rfl | ⟨X, y, rfl⟩
    · rw [join_nil _ _ h]; simp [sumR]
    · rw [join_snoc _ _ _ _ h]
      split
      · simp only [sumR_snoc]; omega
      · simp only [sumR_snoc]
theorem join_len (X : List RW) (i n : Int) : (joinX X i n).length ≤ X.length + 1 := by
  by_cases h : n = 0
  · subst h; rw [join_zero]; omega
  · rcases snoc_cases X with rfl | ⟨X, y, rfl⟩
    · rw [join_nil _ _ h]; simp
    · rw [join_snoc _ _ _ _ h]
      split <;> simp
def okX (X : List RW) (n : Int) : Bool := decide (0 ≤ n) && decide (n ≤ 1073741824 - sumR X)
def addX (X : List RW) (i n : Int) : List RW := if okX X n then joinX X i n else X
/-- Rows in their form. -/
structure OkX (X : List RW) : Prop where
  pos : ∀ x ∈ X, 1 ≤ x.c
  sum : sumR X ≤ 1073741824
  form : ∀ A x y B, X = A ++ x :: y :: B → x.i ≠ y.i
theorem sum_nonneg {X : List RW} (h : ∀ x ∈ X, 1 ≤ x.c) : 0 ≤ sumR X := by
  induction X with
  | nil => simp [sumR]
  | cons x l ih =>
    have h1 := h x (by simp)
    have h2 := ih fun y hy => h y (by simp [hy])
    simp only [sumR]; omega
theorem sum_ge_len {X : List RW} (h : ∀ x ∈ X, 1 ≤ x.c) : (X.length : Int) ≤ sumR X := by
  induction X with
  | nil => simp [sumR]
  | cons x l ih =>
    have h1 := h x (by simp)
    have h2 := ih fun y hy => h y (by simp [hy])
    simp only [sumR, List.length_cons]; omega
theorem ok_nil : OkX [] := ⟨by simp, by simp [sumR], by simp⟩
theorem OkX.sum0 {X : List RW} (h : OkX X) : 0 ≤ sumR X := sum_nonneg h.pos
theorem OkX.len {X : List RW} (h : OkX X) : X.length ≤ 1073741824 := by have := sum_ge_len h.pos; have := h.sum; omega
theorem OkX.init {X : List RW} {x : RW} (h : OkX (X ++ [x])) : OkX X := by
  have hp := h.pos x (by simp)
  have hs := h.sum
  rw [sumR_snoc] at hs
  refine ⟨fun y hy => h.pos y (by simp [hy]), by omega, fun A a b B e => h.form A a b (B ++ [x]) (by rw [e]; simp)⟩
theorem OkX.join {X : List RW} (h : OkX X) (i n : Int) (hn : 0 ≤ n) (hs : n ≤ 1073741824 - sumR X) : OkX (joinX X i n) := by
  by_cases h0 : n = 0
  · subst h0; rw [join_zero]; exact h
  · have hsum := join_sum X i n
    refine ⟨?_, by omega, ?_⟩
    · rcases snoc_cases X with rfl | ⟨X, y, rfl⟩
      · rw [join_nil _ _ h0]; intro x hx; simp at hx; subst hx; show 1 ≤ n; omega
      · rw [join_snoc _ _ _ _ h0]
        have hy := h.pos y (by simp)
        split
        · intro x hx
          simp at hx
          rcases hx with hx | rfl
          · exact h.pos x (by simp [hx])
          · show 1 ≤ y.c + n; omega
        · intro x hx
          simp at hx
          rcases hx with hx | rfl | rfl
          · exact h.pos x (by simp [hx])
          · exact hy
          · show 1 ≤ n; omega
    · rcases snoc_cases X with rfl | ⟨X, y, rfl⟩
      · rw [join_nil _ _ h0]
        intro A a b B e
        have := congrArg List.length e
        simp at this; omega
      · rw [join_snoc _ _ _ _ h0]
        split
        · intro A a b B e
          rcases snoc_cases B with rfl | ⟨B, z, rfl⟩
          · have e' : X ++ [⟨y.i, y.c + n⟩] = (A ++ [a]) ++ [b] := by rw [e]; simp
            have e1 := List.append_inj' e' rfl
            have e2 : b = ⟨y.i, y.c + n⟩ := by simpa using e1.2.symm
            rw [e2]
            exact h.form A a y [] (by rw [e1.1]; simp)
          · have e' : X ++ [⟨y.i, y.c + n⟩] = (A ++ a :: b :: B) ++ [z] := by rw [e]; simp
            have e1 := List.append_inj' e' rfl
            exact h.form A a b (B ++ [y]) (by rw [e1.1]; simp)
        · rename_i hne
          intro A a b B e
          rcases snoc_cases B with rfl | ⟨B, z, rfl⟩
          · have e' : X ++ [y] ++ [⟨i, n⟩] = (A ++ [a]) ++ [b] := by rw [e]; simp
            have e1 := List.append_inj' e' rfl
            have e2 : b = ⟨i, n⟩ := by simpa using e1.2.symm
            have e3 := List.append_inj' e1.1 rfl
            have e4 : a = y := by simpa using e3.2.symm
            rw [e2, e4]; exact hne
          · have e' : X ++ [y] ++ [⟨i, n⟩] = (A ++ a :: b :: B) ++ [z] := by rw [e]; simp
            have e1 := List.append_inj' e' rfl
            exact h.form A a b B e1.1
theorem okX_iff (X : List RW) (n : Int) : okX X n = true ↔ 0 ≤ n ∧ n ≤ 1073741824 - sumR X := by simp [okX]
theorem OkX.add {X : List RW} (h : OkX X) (i n : Int) : OkX (addX X i n) := by
  unfold addX
  split
  · rename_i h1
    obtain ⟨a, b⟩ := (okX_iff X n).1 h1
    exact h.join i n a b
  · exact h
theorem add_len (X : List RW) (i n : Int) : (addX X i n).length ≤ X.length + 1 := by
  unfold addX
  split
  · exact join_len X i n
  · omega
theorem add_yes {X : List RW} {n : Int} (i : Int) (h : okX X n = true) : addX X i n = joinX X i n := by unfold addX; rw [if_pos h]
theorem add_no {X : List RW} {n : Int} (i : Int) (h : okX X n = false) : addX X i n = X := by unfold addX; rw [if_neg (by simp [h])]
/-- Whose a tick from 0 on is. -/
def ownX : List RW → Int → Option Int
  | [], _ => none
  | x :: l, t => if t < x.c then some x.i else ownX l (t - x.c)
/-- The first run that ends behind a tick. -/
def kX (t : Int) : Int → List RW → Nat
  | _, [] => 0
  | a, x :: l => if t < a + x.c then 0 else kX t (a + x.c) l + 1
theorem sum_take_mono {X : List RW} (h : ∀ x ∈ X, 1 ≤ x.c) (k : Nat) : 0 ≤ sumR (X.take k) := sum_nonneg fun x hx => h x (List.mem_of_mem_take hx)
theorem kX_iff (t : Int) : ∀ (X : List RW) (a : Int) (h : ∀ x ∈ X, 1 ≤ x.c) (k : Nat) (x : RW), X[k]? = some x → (t < a + sumR (X.take (k + 1)) ↔ kX t a X ≤ k)
  | [], a, h, k, x, hx => by simp at hx
  | y :: l, a, h, k, x, hx => by
    have hl : ∀ x ∈ l, 1 ≤ x.c := fun x hx => h x (by simp [hx])
    have hy := h y (by simp)
    simp only [List.take_succ_cons, sumR, kX]
    cases k with
    | zero =>
      simp only [List.take_zero, sumR]
      split <;> omega
    | succ k =>
      have hx' : l[k]? = some x := by simpa using hx
      have ih := kX_iff t l (a + y.c) hl k x hx'
      have hm := sum_take_mono hl (k + 1)
      split
      · constructor
        · intro _; omega
        · intro _; omega
      · rw [show a + (y.c + sumR (l.take (k + 1))) = a + y.c + sumR (l.take (k + 1)) by omega, ih]; omega
theorem kX_le (t : Int) : ∀ (X : List RW) (a : Int), kX t a X ≤ X.length
  | [], a => Nat.le_refl _
  | y :: l, a => by
    simp only [kX, List.length_cons]
    split
    · omega
    · have := kX_le t l (a + y.c); omega
theorem kX_lt (t : Int) : ∀ (X : List RW) (a : Int), t < a + sumR X → a ≤ t → kX t a X < X.length
  | [], a, h, h2 => by simp [sumR] at h; omega
  | y :: l, a, h, h2 => by
    simp only [kX, List.length_cons, sumR] at h ⊢
    split
    · omega
    · have := kX_lt t l (a + y.c) (by omega) (by omega); omega
theorem own_kX (t : Int) : ∀ (X : List RW) (a : Int), ownX X (t - a) = (X[kX t a X]?).map (·.i)
  | [], a => by simp [ownX]
  | y :: l, a => by
    simp only [ownX, kX]
    by_cases h : t < a + y.c
    · rw [if_pos h, if_pos (by omega)]; simp
    · rw [if_neg h, if_neg (by omega), List.getElem?_cons_succ, ← own_kX t l (a + y.c)]; congr 1; omega
theorem own_none : ∀ (X : List RW) (t : Int), (∀ x ∈ X, 1 ≤ x.c) → sumR X ≤ t → ownX X t = none
  | [], t, h, hs => rfl
  | y :: l, t, h, hs => by
    have hl : ∀ x ∈ l, 1 ≤ x.c := fun x hx => h x (by simp [hx])
    have h0 := sum_nonneg hl
    simp only [sumR] at hs
    rw [ownX, if_neg (by omega)]
    exact own_none l _ hl (by omega)
/-- All owners, tick by tick. -/
def wordX (X : List RW) : List Int := X.flatMap fun x => List.replicate x.c.toNat x.i
theorem word_len : ∀ {X : List RW}, (∀ x ∈ X, 1 ≤ x.c) → ((wordX X).length : Int) = sumR X
  | [], _ => rfl
  | y :: l, h => by
    have ih := word_len (X := l) fun x hx => h x (by simp [hx])
    have hy := h y (by simp)
    have e : wordX (y :: l) = List.replicate y.c.toNat y.i ++ wordX l := rfl
    rw [e, List.length_append, List.length_replicate, sumR]; omega
theorem word_get : ∀ {X : List RW}, (∀ x ∈ X, 1 ≤ x.c) → ∀ k : Nat, (wordX X)[k]? = ownX X k
  | [], _, k => by simp [wordX, ownX]
  | y :: l, h, k => by
    have hl : ∀ x ∈ l, 1 ≤ x.c := fun x hx => h x (by simp [hx])
    have hy := h y (by simp)
    have e : wordX (y :: l) = List.replicate y.c.toNat y.i ++ wordX l := rfl
    rw [e, ownX]
    by_cases hk : (k : Int) < y.c
    · rw [if_pos hk, List.getElem?_append_left (by simp; omega), List.getElem?_replicate, if_pos (by omega)]
    · rw [if_neg hk, List.getElem?_append_right (by simp; omega), List.length_replicate, word_get hl, show ((k - y.c.toNat : Nat) : Int) = (k : Int) - y.c by omega]
theorem word_snoc (X : List RW) (x : RW) : wordX (X ++ [x]) = wordX X ++ List.replicate x.c.toNat x.i := by simp [wordX]
theorem word_join (X : List RW) (i : Int) (h : ∀ x ∈ X, 1 ≤ x.c) : wordX (joinX X i 1) = wordX X ++ [i] := by
  rcases snoc_cases X with rfl | ⟨X, y, rfl⟩
  · rw [join_nil _ _ (by omega)]; rfl
  · have hy := h y (by simp)
    rw [join_snoc _ _ _ _ (by omega)]
    split
    · rename_i e
      rw [word_snoc, word_snoc, List.append_assoc]
      congr 1
      dsimp only
      rw [show (y.c + 1).toNat = y.c.toNat + 1 by omega, List.replicate_succ', e]
    · rw [word_snoc _ ⟨i, 1⟩]; rfl
/-- The rows of owners. -/
def ofX (l : List Int) : List RW := l.foldl (fun X i => addX X i 1) []
theorem of_snoc (l : List Int) (i : Int) : ofX (l ++ [i]) = addX (ofX l) i 1 := by simp [ofX]
theorem of_ok (l : List Int) : OkX (ofX l) := by
  rcases List.eq_nil_or_concat l with rfl | ⟨m, x, rfl⟩
  · exact ok_nil
  · rw [List.concat_eq_append, of_snoc]; exact (of_ok m).add x 1
termination_by l.length
decreasing_by simp_all
theorem of_sum : ∀ (l : List Int), l.length ≤ 1073741824 → sumR (ofX l) = l.length := by
  refine snoc_ind (fun _ => rfl) ?_
  · intro m x ih h
    rw [List.length_append, List.length_singleton] at h
    have ih' := ih (by omega)
    rw [of_snoc, add_yes _ ((okX_iff _ _).2 ⟨by omega, by omega⟩), join_sum, ih', List.length_append, List.length_singleton]; omega
theorem of_word : ∀ (l : List Int), l.length ≤ 1073741824 → wordX (ofX l) = l := by
  refine snoc_ind (fun _ => rfl) ?_
  · intro m x ih h
    rw [List.length_append, List.length_singleton] at h
    have hs := of_sum m (by omega)
    rw [of_snoc, add_yes _ ((okX_iff _ _).2 ⟨by omega, by omega⟩), word_join _ _ (of_ok m).pos, ih (by omega)]
theorem of_app (l m : List Int) : ofX (l ++ m) = m.foldl (fun X i => addX X i 1) (ofX l) := by simp [ofX]
theorem fold_same (i : Int) : ∀ (n : Nat) (X : List RW) (c : Int), 1 ≤ c → sumR X + c + n ≤ 1073741824 → (List.replicate n i).foldl (fun X i => addX X i 1) (X ++ [⟨i, c⟩]) = X ++ [⟨i, c + n⟩]
  | 0, X, c, _, _ => by simp
  | n + 1, X, c, hc, h => by
    rw [List.replicate_succ, List.foldl_cons, add_yes _ ((okX_iff _ _).2 ⟨by omega, by rw [sumR_snoc]; dsimp only; omega⟩), join_snoc _ _ _ _ (by omega), if_pos rfl]
    dsimp only
    rw [fold_same i n X (c + 1) (by omega) (by omega), show c + 1 + (n : Int) = c + ((n + 1 : Nat) : Int) by omega]
theorem word_of : ∀ (X : List RW), OkX X → ofX (wordX X) = X := by
  refine snoc_ind (fun _ => rfl) ?_
  · intro X x ih h
    have hx := h.pos x (by simp)
    have hs := h.sum
    rw [sumR_snoc] at hs
    rw [word_snoc, of_app, ih h.init]
    obtain ⟨n, hn⟩ : ∃ n : Nat, x.c = (n : Int) + 1 := ⟨(x.c - 1).toNat, by omega⟩
    rw [show x.c.toNat = n + 1 by omega, List.replicate_succ, List.foldl_cons, add_yes _ ((okX_iff _ _).2 ⟨by omega, by omega⟩)]
    have e : joinX X x.i 1 = X ++ [⟨x.i, 1⟩] := by
      rcases snoc_cases X with rfl | ⟨Y, y, rfl⟩
      · rw [join_nil _ _ (by omega)]; rfl
      · rw [join_snoc _ _ _ _ (by omega), if_neg (h.form Y y x [] (by simp))]
    rw [e, fold_same x.i n X 1 (by omega) (by omega), show (1 : Int) + (n : Int) = x.c by omega]
/-- Some of the ticks: of rows the first of which begins at s. -/
def partF (from_ to_ : Int) : Int → List RW → List RW → List RW
  | _, [], Y => Y
  | s, x :: l, Y => partF from_ to_ (s + x.c) l (if max s from_ < min (s + x.c) to_ then addX Y x.i (min (s + x.c) to_ - max s from_) else Y)
end Go.Proofs.YtilkicbokfgjlaaDoor.Stp
