
/- Tables: the runs of a schedule's ticks, joined window by window or tick by tick. Plain arithmetic: it says nothing of the program. -/

import Derived.Test.YtofcjkfaccdnjaaDoorWinQ

import Derived.Test.YtofcjkfaccdnjaaDoorWinX

namespace Go.Proofs.YtofcjkfaccdnjaaDoor.Tab

open Go.Proofs.YtofcjkfaccdnjaaDoor.Win

open Go.Proofs.YtofcjkfaccdnjaaDoor.Act (A3)

set_option linter.unusedVariables false

set_option linter.unusedSimpArgs false

/-- Runs with the ticks of one more behind. -/
def joinR (L : List A3) (r : A3) : List A3 := if r.a = 0 then L else match L.getLast? with
  | none => [r]
  | some y => if y.s = r.s then L.dropLast ++ [⟨y.s, y.p, y.a + r.a⟩] else L ++ [r]
theorem join_zero (L : List A3) (r : A3) (h : r.a = 0) : joinR L r = L := by unfold joinR; rw [if_pos h]
theorem join_nil (r : A3) (h : r.a ≠ 0) : joinR [] r = [r] := by unfold joinR; rw [if_neg h]; rfl
theorem join_snoc (L : List A3) (y r : A3) (h : r.a ≠ 0) : joinR (L ++ [y]) r = if y.s = r.s then L ++ [⟨y.s, y.p, y.a + r.a⟩] else L ++ [y] ++ [r] := by
  unfold joinR
  rw [if_neg h, List.getLast?_append]
  simp
theorem snoc_cases (L : List A3) : L = [] ∨ ∃ L' y, L = L' ++ [y] := by
  rcases List.eq_nil_or_concat L with h | ⟨L', y, h⟩
  · exact .inl h
  · exact .inr ⟨L', y, by simpa using h⟩
/-- One tick more of the same owner. -/
theorem join_unit (L : List A3) (s p q n : Int) (h : 1 ≤ n) : joinR (joinR L ⟨s, p, n⟩) ⟨s, q, 1⟩ = joinR L ⟨s, p, n + 1⟩ := by
  rcases snoc_cases L with rfl | ⟨L', y, rfl⟩
  · rw [join_nil ⟨s, p, n⟩ (by show n ≠ 0; omega), join_nil ⟨s, p, n + 1⟩ (by show n + 1 ≠ 0; omega)]
    have := join_snoc [] ⟨s, p, n⟩ ⟨s, q, 1⟩ (by show (1 : Int) ≠ 0; omega)
    rw [List.nil_append] at this
    rw [this, if_pos rfl]; rfl
  · rw [join_snoc L' y ⟨s, p, n⟩ (by show n ≠ 0; omega), join_snoc L' y ⟨s, p, n + 1⟩ (by show n + 1 ≠ 0; omega)]
    dsimp only
    by_cases e : y.s = s
    · rw [if_pos e, if_pos e, join_snoc _ _ _ (by show (1 : Int) ≠ 0; omega), if_pos e]
      dsimp only
      rw [Int.add_assoc]
    · rw [if_neg e, if_neg e, join_snoc _ _ _ (by show (1 : Int) ≠ 0; omega), if_pos rfl]
/-- The runs of the first ticks. -/
def runsD (f : Int → Int) : Nat → List A3
  | 0 => []
  | k + 1 => joinR (runsD f k) ⟨f (k : Int), (k : Int), 1⟩
theorem runs_more (f : Int → Int) (k : Nat) (s : Int) : ∀ n : Nat, (∀ j : Nat, j < n → f ((k + j : Nat) : Int) = s) → runsD f (k + n) = joinR (runsD f k) ⟨s, (k : Int), (n : Int)⟩
  | 0, _ => by rw [join_zero _ _ rfl]; rfl
  | n + 1, h => by
    have ih := runs_more f k s n fun j hj => h j (by omega)
    have e : runsD f (k + (n + 1)) = joinR (runsD f (k + n)) ⟨s, ((k + n : Nat) : Int), 1⟩ := by
      rw [← Nat.add_assoc, runsD, h n (by omega)]
    rw [e, ih]
    rcases Nat.eq_zero_or_pos n with rfl | hp
    · rw [join_zero _ ⟨s, (k : Int), ((0 : Nat) : Int)⟩ rfl]; rfl
    · rw [join_unit _ _ _ _ _ (by omega)]; rfl
/-- The runs, window by window, and where the next one may begin. -/
def stepC (q : List A3 × Int) (x : A3) : List A3 × Int := (joinR (joinR q.1 ⟨-1, q.2, x.p - q.2⟩) ⟨x.s, x.p, x.a⟩, x.p + x.a)
def cutR (fr : Int) (q : List A3 × Int) : List A3 := joinR q.1 ⟨-1, q.2, fr - q.2⟩
theorem own_before {fr t : Int} : ∀ (l : List A3) (e : Int), Chain fr e l → t < e → ownT fr l t = -1
  | [], _, _, _ => rfl
  | x :: l, e, hc, ht => by
    obtain ⟨h1, h2, h3, h4⟩ := hc.1
    have ih := own_before l _ hc.2 (show t < x.p + x.a by omega)
    rw [ownT, has_right h3 h4, decide_eq_false (show ¬ x.p ≤ t by omega), ih]
    rfl
theorem own_skip {fr t : Int} (x : A3) (l : List A3) (h3 : 1 ≤ x.a) (h4 : x.p + x.a ≤ fr) (ht : x.p + x.a ≤ t) : ownT fr (x :: l) t = ownT fr l t := by
  rw [ownT, has_right h3 h4, decide_eq_false (show ¬ t < x.p + x.a by omega)]
  simp
theorem cut_runs {fr : Int} (g : Int → Int) : ∀ (l : List A3) (q : List A3 × Int) (k : Nat), Chain fr (k : Int) l → q = (runsD g k, (k : Int)) → (k : Int) ≤ fr → (∀ t, (k : Int) ≤ t → g t = ownT fr l t) →
    cutR fr (l.foldl stepC q) = runsD g fr.toNat
  | [], q, k, hc, hq, hk, hg => by
    subst hq
    show joinR (runsD g k) ⟨-1, (k : Int), fr - (k : Int)⟩ = _
    obtain ⟨n, hn⟩ : ∃ n : Nat, fr = ((k + n : Nat) : Int) := ⟨fr.toNat - k, by omega⟩
    rw [hn, show (((k + n : Nat) : Int)).toNat = k + n from rfl, runs_more g k (-1) n fun j _ => hg _ (by omega)]
    congr 2
    omega
  | x :: l, q, k, hc, hq, hk, hg => by
    subst hq
    obtain ⟨h1, h2, h3, h4⟩ := hc.1
    rw [List.foldl_cons]
    obtain ⟨p, hp⟩ : ∃ p : Nat, x.p = ((k + p : Nat) : Int) := ⟨x.p.toNat - k, by omega⟩
    obtain ⟨a, ha⟩ : ∃ a : Nat, x.a = (a : Int) := ⟨x.a.toNat, by omega⟩
    have e1 : joinR (runsD g k) ⟨-1, (k : Int), x.p - (k : Int)⟩ = runsD g (k + p) := by
      rw [runs_more g k (-1) p fun j hj => (hg _ (by omega)).trans (by
        rw [ownT, has_right h3 h4, decide_eq_false (show ¬ x.p ≤ ((k + j : Nat) : Int) by omega), own_before l _ hc.2 (by omega)]
        rfl)]
      congr 2
      omega
    have e2 : joinR (runsD g (k + p)) ⟨x.s, x.p, x.a⟩ = runsD g (k + p + a) := by
      rw [runs_more g (k + p) x.s a fun j hj => (hg _ (by omega)).trans (by
        rw [ownT, has_right h3 h4, decide_eq_true (show x.p ≤ ((k + p + j : Nat) : Int) by omega), decide_eq_true (show ((k + p + j : Nat) : Int) < x.p + x.a by omega)]
        rfl), hp, ha]
    refine cut_runs g l _ (k + p + a) ?_ ?_ (by omega) fun t ht => ?_
    · have h := hc.2
      rw [show x.p + x.a = ((k + p + a : Nat) : Int) by omega] at h
      exact h
    · show (joinR (joinR (runsD g k) ⟨-1, (k : Int), x.p - (k : Int)⟩) ⟨x.s, x.p, x.a⟩, x.p + x.a) = _
      rw [e1, e2]
      congr 1
      omega
    · rw [hg t (by omega), own_skip x l h3 h4 (by omega)]
/-- The runs of a schedule whose windows are right are those of its ticks. -/
theorem cut_all {fr : Nat} {l : List A3} (hc : Chain (fr : Int) 0 l) : cutR (fr : Int) (l.foldl stepC ([], 0)) = runsD (ownT (fr : Int) l) fr := by
  have h := cut_runs (fr := (fr : Int)) (ownT (fr : Int) l) l ([], 0) 0 (by simpa using hc) rfl (by omega) (fun t _ => rfl)
  exact h
/-- Runs, one behind the other, of the first ticks; no two side by side are one owner's. -/
structure GR (f : Int → Int) (L : List A3) (k : Int) : Prop where
  sum : sumA L = k
  at_ : ∀ i x, L[i]? = some x → x.p = sumA (L.take i) ∧ 1 ≤ x.a ∧ ∀ t, x.p ≤ t → t < x.p + x.a → f t = x.s
  adj : ∀ i x y, L[i]? = some x → L[i + 1]? = some y → x.s ≠ y.s
theorem gr_step {f : Int → Int} {L : List A3} {k : Nat} (h : GR f L (k : Int)) : GR f (joinR L ⟨f (k : Int), (k : Int), 1⟩) ((k + 1 : Nat) : Int) := by
  rcases snoc_cases L with rfl | ⟨L', y, rfl⟩
  · have hk : k = 0 := by have := h.sum; simp [sumA] at this; omega
    subst hk
    rw [join_nil _ (by show (1 : Int) ≠ 0; omega)]
    refine ⟨by simp [sumA], fun i x hx => ?_, fun i x y hx hy => by simp at hy⟩
    have hi : i = 0 := by have := (List.getElem?_eq_some_iff.1 hx).1; simp at this; exact this
    subst hi
    obtain rfl : x = ⟨f ((0 : Nat) : Int), ((0 : Nat) : Int), 1⟩ := by simpa using hx.symm
    refine ⟨by simp [sumA], by dsimp only; omega, fun t h1 h2 => ?_⟩
    dsimp only at h1 h2
    rw [show t = ((0 : Nat) : Int) by omega]
  · rw [join_snoc _ _ _ (by show (1 : Int) ≠ 0; omega)]
    dsimp only
    have hsum := h.sum
    rw [sumA_snoc] at hsum
    obtain ⟨hp, ha, hf⟩ := h.at_ L'.length y (by simp)
    rw [List.take_left' rfl] at hp
    by_cases e : y.s = f (k : Int)
    · rw [if_pos e]
      refine ⟨by rw [sumA_snoc]; dsimp only; omega, fun i x hx => ?_, fun i x z hx hz => ?_⟩
      · rcases Nat.lt_or_ge i L'.length with hi | hi
        · rw [List.getElem?_append_left hi] at hx
          have := h.at_ i x (by rw [List.getElem?_append_left hi]; exact hx)
          rw [List.take_append_of_le_length (by omega)] at this ⊢
          exact this
        · have hi2 : i = L'.length := by have := (List.getElem?_eq_some_iff.1 hx).1; simp at this; omega
          subst hi2
          obtain rfl : x = ⟨y.s, y.p, y.a + 1⟩ := by simpa using hx.symm
          rw [List.take_left' rfl]
          refine ⟨hp, by dsimp only; omega, fun t h1 h2 => ?_⟩
          dsimp only at h1 h2 ⊢
          rcases Int.lt_or_le t (y.p + y.a) with h3 | h3
          · exact hf t h1 h3
          · rw [show t = (k : Int) by omega]; exact e.symm
      · rcases Nat.lt_or_ge (i + 1) L'.length with hi | hi
        · rw [List.getElem?_append_left (by omega)] at hx
          rw [List.getElem?_append_left hi] at hz
          exact h.adj i x z (by rw [List.getElem?_append_left (by omega)]; exact hx) (by rw [List.getElem?_append_left hi]; exact hz)
        · have hi2 : i + 1 = L'.length := by have := (List.getElem?_eq_some_iff.1 hz).1; simp at this; omega
          rw [List.getElem?_append_left (by omega)] at hx
          rw [hi2] at hz
          obtain rfl : z = ⟨y.s, y.p, y.a + 1⟩ := by simpa using hz.symm
          exact h.adj i x y (by rw [List.getElem?_append_left (by omega)]; exact hx) (by rw [hi2]; simp)
    · rw [if_neg e]
      refine ⟨by rw [sumA_snoc, sumA_snoc]; dsimp only; omega, fun i x hx => ?_, fun i x z hx hz => ?_⟩
      · rcases Nat.lt_or_ge i (L' ++ [y]).length with hi | hi
        · rw [List.getElem?_append_left hi] at hx
          have := h.at_ i x hx
          rw [List.take_append_of_le_length (by omega)]
          exact this
        · have hi2 : i = (L' ++ [y]).length := by have := (List.getElem?_eq_some_iff.1 hx).1; simp at this hi ⊢; omega
          subst hi2
          obtain rfl : x = ⟨f (k : Int), (k : Int), 1⟩ := by simpa using hx.symm
          rw [List.take_left' rfl, sumA_snoc]
          refine ⟨by dsimp only; omega, by dsimp only; omega, fun t h1 h2 => ?_⟩
          dsimp only at h1 h2 ⊢
          rw [show t = (k : Int) by omega]
      · rcases Nat.lt_or_ge (i + 1) (L' ++ [y]).length with hi | hi
        · rw [List.getElem?_append_left (by omega)] at hx
          rw [List.getElem?_append_left hi] at hz
          exact h.adj i x z hx hz
        · have hi2 : i + 1 = (L' ++ [y]).length := by have := (List.getElem?_eq_some_iff.1 hz).1; simp at this hi ⊢; omega
          have hi3 : i = L'.length := by simp at hi2; exact hi2
          rw [hi2] at hz
          obtain rfl : z = ⟨f (k : Int), (k : Int), 1⟩ := by simpa using hz.symm
          rw [List.getElem?_append_left (by omega), hi3] at hx
          obtain rfl : y = x := by simpa using hx
          exact e
theorem gr_runs (f : Int → Int) : ∀ k : Nat, GR f (runsD f k) (k : Int)
  | 0 => ⟨rfl, fun i x hx => by simp [runsD] at hx, fun i x y hx _ => by simp [runsD] at hx⟩
  | k + 1 => gr_step (gr_runs f k)
theorem runs_len (f : Int → Int) : ∀ k : Nat, (runsD f k).length ≤ k
  | 0 => Nat.le_refl _
  | k + 1 => by
    have ih := runs_len f k
    rw [runsD]
    rcases snoc_cases (runsD f k) with h | ⟨L', y, h⟩
    · rw [h, join_nil _ (by show (1 : Int) ≠ 0; omega)]; simp
    · rw [h] at ih ⊢
      rw [join_snoc _ _ _ (by show (1 : Int) ≠ 0; omega)]
      split
      · simp at ih ⊢; omega
      · simp at ih ⊢; omega
theorem sum_mono {f : Int → Int} {L : List A3} {k : Int} (h : GR f L k) : ∀ (j i : Nat), i ≤ j → j ≤ L.length → sumA (L.take i) ≤ sumA (L.take j)
  | 0, i, hij, _ => by obtain rfl : i = 0 := by omega
                       exact Int.le_refl _
  | j + 1, i, hij, hj => by
    rcases Nat.eq_or_lt_of_le hij with e | e
    · rw [e]; exact Int.le_refl _
    · have ih := sum_mono h j i (by omega) (by omega)
      have hx : L[j]? = some L[j] := List.getElem?_eq_getElem (by omega)
      have := (h.at_ j _ hx).2.1
      rw [List.take_add_one, hx]
      show _ ≤ sumA (L.take j ++ [L[j]])
      rw [sumA_snoc]
      omega
/-- The run that a tick is in. -/
theorem run_at {f : Int → Int} {L : List A3} {k : Int} (h : GR f L k) {t : Int} (h0 : 0 ≤ t) (h1 : t < k) :
    ∃ (c : Nat) (x : A3), L[c]? = some x ∧ x.p ≤ t ∧ t < x.p + x.a ∧ (∀ (i : Nat) (y : A3), i < c → L[i]? = some y → y.p + y.a ≤ t) ∧ (∀ (i : Nat) (y : A3), c ≤ i → L[i]? = some y → t < y.p + y.a) := by
  have key : ∀ m : Nat, m ≤ L.length → t < sumA (L.take m) → ∃ c, c < m ∧ sumA (L.take c) ≤ t ∧ t < sumA (L.take (c + 1)) := by
    intro m
    induction m with
    | zero => intro _ hm; simp [sumA] at hm; omega
    | succ m ih =>
      intro hm1 hm2
      rcases Int.lt_or_le t (sumA (L.take m)) with h3 | h3
      · obtain ⟨c, hc1, hc2⟩ := ih (by omega) h3
        exact ⟨c, by omega, hc2⟩
      · exact ⟨m, by omega, h3, hm2⟩
  obtain ⟨c, hc, h2, h3⟩ := key L.length (Nat.le_refl _) (by rw [List.take_length, h.sum]; exact h1)
  have hx : L[c]? = some L[c] := List.getElem?_eq_getElem hc
  obtain ⟨p1, p2, p3⟩ := h.at_ c _ hx
  have e : sumA (L.take (c + 1)) = sumA (L.take c) + L[c].a := by rw [List.take_add_one, hx]; exact sumA_snoc _ _
  refine ⟨c, L[c], hx, by omega, by omega, fun i y hi hy => ?_, fun i y hi hy => ?_⟩
  · obtain ⟨q1, q2, _⟩ := h.at_ i y hy
    have e2 : sumA (L.take (i + 1)) = sumA (L.take i) + y.a := by rw [List.take_add_one, hy]; exact sumA_snoc _ _
    have := sum_mono h c (i + 1) (by omega) (by omega)
    omega
  · obtain ⟨q1, q2, _⟩ := h.at_ i y hy
    have e2 : sumA (L.take (i + 1)) = sumA (L.take i) + y.a := by rw [List.take_add_one, hy]; exact sumA_snoc _ _
    have hil := (List.getElem?_eq_some_iff.1 hy).1
    have := sum_mono h (i + 1) (c + 1) (by omega) (by omega)
    omega
theorem count_below (c : Nat) : ∀ n : Nat, (List.range n).countP (fun i => decide (i < c)) = min n c
  | 0 => by simp
  | n + 1 => by
    rw [List.range_succ, List.countP_append, count_below c n]
    by_cases h : n < c
    · simp [h]; omega
    · simp [h]; omega
end Go.Proofs.YtofcjkfaccdnjaaDoor.Tab
