
/- Plans in plain words: what is open is what a word doesn't give yet; what isn't late is met. It says nothing of the program. No condition. -/

import Derived.Test.YtpjillclladjaaaDoorPlnE

namespace Go.Proofs.YtpjillclladjaaaDoor.Pln

open Go.Proofs.YtpjillclladjaaaDoor.Act (A3 I64)

open Go.Proofs.YtpjillclladjaaaDoor.Nee

open Go.Proofs.YtpjillclladjaaaDoor.Win (cntZ cntZ_more cntZ_le)

set_option linter.unusedVariables false

set_option linter.unusedSimpArgs false

/-- How many numbers from a place on are so. -/
def gvn (W : List Int) (s : Int) (f : Nat) : Nat := cntZ s (W.drop f)
def fromN (t : Nat) (p : Int) : Nat := t - t % p.toNat
theorem mod_nat (t : Nat) {p : Int} (hp : 1 ≤ p) : (t : Int) % p = ((t % p.toNat : Nat) : Int) := by
  obtain ⟨P, rfl⟩ : ∃ P : Nat, p = (P : Int) := ⟨p.toNat, by omega⟩
  simp
theorem end_from (t : Nat) {p : Int} (hp : 1 ≤ p) : endZ (t : Int) p = (fromN t p : Int) + p := by
  unfold endZ fromN
  rw [mod_nat t hp]
  have := Nat.mod_le t p.toNat
  omega
theorem from_div (t : Nat) (p : Int) : t / p.toNat * p.toNat = fromN t p := by
  unfold fromN
  have := Nat.div_add_mod t p.toNat
  rw [Nat.mul_comm] at this
  omega
theorem from_le (t : Nat) (p : Int) : fromN t p ≤ t := by unfold fromN; omega
theorem from_next (t : Nat) {p : Int} (hp : 1 ≤ p) : (((t : Int) + 1) % p = 0 ∧ fromN (t + 1) p = t + 1 ∧ (fromN t p : Int) = (t : Int) + 1 - p) ∨ (((t : Int) + 1) % p ≠ 0 ∧ fromN (t + 1) p = fromN t p) := by
  have h1 := end_from t hp
  have h2 := end_from (t + 1) hp
  have e : ((t + 1 : Nat) : Int) = (t : Int) + 1 := by omega
  rw [e] at h2
  rcases mod_next (t := (t : Int)) hp with ⟨h3, h4, h5⟩ | ⟨h3, h4, _⟩
  · exact .inl ⟨h3, by omega, by omega⟩
  · exact .inr ⟨h3, by omega⟩
theorem gvn_snoc (W : List Int) (s v : Int) (f : Nat) (h : f ≤ W.length) : gvn (W ++ [v]) s f = gvn W s f + (if v = s then 1 else 0) := by
  unfold gvn
  rw [List.drop_append, cntZ_app, show f - W.length = 0 by omega, List.drop_zero]
  congr 1
  unfold cntZ
  by_cases c : v = s
  · subst c; simp
  · simp [c]
theorem gvn_end (W : List Int) (s : Int) : gvn W s W.length = 0 := by
  unfold gvn
  rw [List.drop_length]; rfl
def IdsOk (l : List A3) : Prop := (∀ i j, i < j → j < l.length → (nd l i).s < (nd l j).s) ∧ ∀ k, k < l.length → 0 ≤ (nd l k).s
theorem link (l : List A3) (hl : NdOk l) (hi : IdsOk l) : ∀ (t k : Nat), k < l.length →
    begR l t (runR l t).1 k = (nd l k).a - (gvn (runR l t).2 (nd l k).s (fromN t (nd l k).p) : Nat) ∧ (runR l (t + 1)).1 k = (nd l k).a - (gvn (runR l (t + 1)).2 (nd l k).s (fromN t (nd l k).p) : Nat) := by
  have hstep : ∀ (t k : Nat), k < l.length → begR l t (runR l t).1 k = (nd l k).a - (gvn (runR l t).2 (nd l k).s (fromN t (nd l k).p) : Nat) → (runR l (t + 1)).1 k = (nd l k).a - (gvn (runR l (t + 1)).2 (nd l k).s (fromN t (nd l k).p) : Nat) := by
    intro t k hk h
    have h1 : (runR l (t + 1)).2 = (runR l t).2 ++ [idR l (bestR l t (runR l t).1)] := rfl
    have h2 : (runR l (t + 1)).1 = updR (begR l t (runR l t).1) (bestR l t (runR l t).1) := rfl
    rw [h1, gvn_snoc _ _ _ _ (by rw [run_len]; exact from_le _ _), h2]
    unfold updR
    rw [h]
    have h0 := hi.2 k hk
    rcases bst_range l t (begR l t (runR l t).1) l.length with e | ⟨m, hm, e⟩
    · have e2 : bestR l t (runR l t).1 = -1 := e
      rw [e2, if_neg (show ¬ (k : Int) = -1 by omega)]
      unfold idR
      rw [if_pos (show (-1 : Int) < 0 by omega), if_neg (show ¬ (-1 : Int) = (nd l k).s by omega)]; omega
    · have e2 : bestR l t (runR l t).1 = (m : Int) := e
      rw [e2]
      unfold idR
      rw [if_neg (show ¬ (m : Int) < 0 by omega), show ((m : Int)).toNat = m by omega]
      by_cases c : k = m
      · subst c
        rw [if_pos rfl, if_pos rfl]; omega
      · rw [if_neg (show ¬ (k : Int) = (m : Int) by omega)]
        have hne : ¬ (nd l m).s = (nd l k).s := by
          rcases Nat.lt_or_ge k m with h3 | h3
          · have := hi.1 k m h3 hm; omega
          · have := hi.1 m k (by omega) hk; omega
        rw [if_neg hne]; omega
  have hbeg : ∀ (t k : Nat), k < l.length → begR l t (runR l t).1 k = (nd l k).a - (gvn (runR l t).2 (nd l k).s (fromN t (nd l k).p) : Nat) := by
    intro t
    induction t with
    | zero =>
      intro k hk
      have e : begR l (0 : Nat) (runR l 0).1 k = (nd l k).a := by
        unfold begR
        rw [if_pos (by simp)]
      rw [e]
      have : gvn (runR l 0).2 (nd l k).s (fromN 0 (nd l k).p) = 0 := by simp [gvn, runR, cntZ]
      rw [this]; simp
    | succ t ih =>
      intro k hk
      have h1 := hstep t k hk (ih k hk)
      obtain ⟨hp, ha⟩ := hl k hk
      have e : ((t + 1 : Nat) : Int) = (t : Int) + 1 := by omega
      rw [e]
      unfold begR
      rcases from_next t hp with ⟨h3, h4, h5⟩ | ⟨h3, h4⟩
      · rw [if_pos h3, h4]
        have := gvn_end (runR l (t + 1)).2 (nd l k).s
        rw [run_len] at this
        rw [this]; simp
      · rw [if_neg h3, h4, h1]
  exact fun t k hk => ⟨hbeg t k hk, hstep t k hk (hbeg t k hk)⟩
theorem run_take (l : List A3) (t : Nat) : ∀ n, ((runR l (t + n)).2).take t = (runR l t).2
  | 0 => List.take_of_length_le (by rw [run_len]; exact Nat.le_refl _)
  | n + 1 => by
    have h1 : (runR l (t + (n + 1))).2 = (runR l (t + n)).2 ++ [idR l (bestR l (t + n : Nat) (runR l (t + n)).1)] := rfl
    rw [h1, List.take_append_of_le_length (by rw [run_len]; omega)]
    exact run_take l t n
theorem fl_before (l : List A3) : ∀ t, flR l t = -1 → ∀ u, u < t → lateR l u = -1
  | 0, _, u, h => by omega
  | t + 1, h, u, hu => by
    unfold flR at h
    by_cases c : 0 ≤ flR l t
    · rw [if_pos c] at h; omega
    · rw [if_neg c] at h
      rcases Nat.lt_or_ge u t with h1 | h1
      · refine fl_before l t ?_ u h1
        have hge : -1 ≤ flR l t := by
          clear h
          induction t with
          | zero => exact Int.le_refl _
          | succ t ih =>
            unfold flR
            split
            · rename_i hh; omega
            · unfold lateR
              rcases lt_range l t (runR l (t + 1)).1 l.length with ⟨e, _⟩ | ⟨m, _, e, _⟩
              · rw [e]; exact Int.le_refl _
              · rw [e]; omega
        omega
      · obtain rfl : u = t := by omega
        exact h
/-- What is planned, and works, meets its needs. -/
theorem plan_meets (l : List A3) (hl : NdOk l) (hi : IdsOk l) (fr : Nat) (h : flR l fr = -1) (k : Nat) (hk : k < l.length) : Meets (runR l fr).2 (nd l k) := by
  intro j hj
  rw [run_len] at hj
  obtain ⟨hp, ha⟩ := hl k hk
  obtain ⟨P, hP⟩ : ∃ P : Nat, (nd l k).p = (P : Int) := ⟨(nd l k).p.toNat, by omega⟩
  have hPt : (nd l k).p.toNat = P := by omega
  rw [hPt] at hj ⊢
  have hP1 : 1 ≤ P := by omega
  have hsum : (j + 1) * P = j * P + P := by rw [Nat.add_mul, Nat.one_mul]
  rw [hsum] at hj
  obtain ⟨u, hu⟩ : ∃ u, u + 1 = j * P + P := ⟨j * P + P - 1, by omega⟩
  have h1 := fl_before l fr h u (by omega)
  unfold lateR at h1
  have h2 := (link l hl hi u k hk).2
  have hmod : ((u : Int) + 1) % (nd l k).p = 0 := by
    rw [hP]
    have : (u : Int) + 1 = ((j + 1 : Nat) : Int) * (P : Int) := by rw [← Int.natCast_mul, hsum]; omega
    rw [this]
    exact Int.mul_emod_left _ _
  have hfrom : fromN u (nd l k).p = j * P := by
    rcases from_next u hp with ⟨_, _, h4⟩ | ⟨h3, _⟩
    · omega
    · exact absurd hmod h3
  rw [hfrom] at h2
  have he : endZ (u : Int) (nd l k).p = (u : Int) + 1 := by
    rw [end_from u hp, hfrom]; omega
  have hr : (runR l (u + 1)).1 k ≤ 0 := by
    rcases lt_range l u (runR l (u + 1)).1 l.length with ⟨_, h4⟩ | ⟨m, _, e, _⟩
    · have := h4 k hk
      rcases Int.lt_or_le 0 ((runR l (u + 1)).1 k) with h5 | h5
      · exact absurd ⟨h5, he⟩ this
      · exact h5
    · rw [e] at h1; omega
  have ht : (runR l (u + 1)).2 = ((runR l fr).2).take (j * P + P) := by
    have := run_take l (u + 1) (fr - (u + 1))
    rw [show u + 1 + (fr - (u + 1)) = fr by omega, hu] at this
    rw [hu]; exact this.symm
  have hg : gvn (runR l (u + 1)).2 (nd l k).s (j * P) = cntZ (nd l k).s (chkZ (runR l fr).2 P j) := by
    unfold gvn chkZ
    rw [ht, List.drop_take, show j * P + P - j * P = P by omega]
  rw [hg] at h2
  omega
end Go.Proofs.YtpjillclladjaaaDoor.Pln
