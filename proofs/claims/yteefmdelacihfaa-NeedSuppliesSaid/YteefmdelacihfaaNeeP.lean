
/- Needs: the longest row without a number, however it is counted; the greatest divisor. Plain arithmetic: it says nothing of the program. -/

import Derived.Test.YteefmdelacihfaaWinAA

namespace Go.Proofs.Yteefmdelacihfaa.Nee

set_option linter.unusedVariables false

set_option linter.unusedSimpArgs false

/-- How many numbers ahead of the first z. -/
def leadZ (z : Int) : List Int → Nat
  | [] => 0
  | v :: r => if v = z then 0 else leadZ z r + 1
/-- The longest row without z. -/
def bestZ (z : Int) : List Int → Nat
  | [] => 0
  | v :: r => max (leadZ z (v :: r)) (bestZ z r)
/-- One more number: the row that it ends, and the longest so far. -/
def rowF (z : Int) (s : Nat × Nat) (v : Int) : Nat × Nat := ((if v = z then 0 else s.1 + 1), max s.2 (if v = z then 0 else s.1 + 1))
theorem fold_best (z : Int) : ∀ (r : List Int) (s : Nat × Nat), s.1 ≤ s.2 → (r.foldl (rowF z) s).2 = max s.2 (max (s.1 + leadZ z r) (bestZ z r))
  | [], s, h => by simp [leadZ, bestZ]; omega
  | v :: r, s, h => by
    rw [List.foldl_cons, fold_best z r _ (by unfold rowF; dsimp only; omega)]
    unfold rowF
    dsimp only
    simp only [bestZ, leadZ]
    split
    · have : leadZ z r ≤ bestZ z r := by cases r <;> simp [leadZ, bestZ]; omega
      omega
    · omega
theorem lead_le_best (z : Int) (r : List Int) : leadZ z r ≤ bestZ z r := by cases r <;> simp [leadZ, bestZ]; omega
theorem fold_best0 (z : Int) (r : List Int) : (r.foldl (rowF z) (0, 0)).2 = bestZ z r := by
  rw [fold_best z r _ (Nat.le_refl _)]
  have := lead_le_best z r
  simp; omega
theorem lead_drop_le (z : Int) : ∀ (r : List Int) (j : Nat), leadZ z (r.drop j) ≤ bestZ z r
  | [], j => by simp [leadZ]
  | v :: r, 0 => lead_le_best z _
  | v :: r, j + 1 => by
    have := lead_drop_le z r j
    rw [List.drop_succ_cons, bestZ]
    omega
theorem best_at (z : Int) : ∀ r : List Int, bestZ z r = 0 ∨ ∃ j, j < r.length ∧ bestZ z r = leadZ z (r.drop j)
  | [] => .inl rfl
  | v :: r => by
    rcases Nat.le_total (bestZ z r) (leadZ z (v :: r)) with h | h
    · right; exact ⟨0, by simp, by rw [List.drop_zero, bestZ]; omega⟩
    · rcases best_at z r with h0 | ⟨j, hj, e⟩
      · left; rw [bestZ]; omega
      · right; exact ⟨j + 1, by simp; omega, by rw [List.drop_succ_cons, ← e, bestZ]; omega⟩
theorem lead_len (z : Int) : ∀ r : List Int, leadZ z r ≤ r.length
  | [] => Nat.le_refl _
  | v :: r => by
    have := lead_len z r
    rw [leadZ, List.length_cons]
    split <;> omega
theorem lead_free (z : Int) : ∀ r : List Int, z ∉ r → leadZ z r = r.length
  | [], _ => rfl
  | v :: r, h => by
    have h1 : v ≠ z := fun e => h (by rw [e]; exact List.mem_cons_self)
    have h2 : z ∉ r := fun e => h (List.mem_cons_of_mem _ e)
    rw [leadZ, if_neg h1, lead_free z r h2, List.length_cons]
theorem lead_app (z : Int) (b : List Int) : ∀ a : List Int, leadZ z (a ++ z :: b) = leadZ z a
  | [] => by simp [leadZ]
  | v :: a => by
    rw [List.cons_append, leadZ, leadZ, lead_app z b a]
/-- The one number of steps: none of them is z, and then there is z, or the end. -/
theorem lead_is (z : Int) : ∀ (r : List Int) (d : Nat), d ≤ r.length → (∀ j, j < d → r[j]? ≠ some z) → (d = r.length ∨ r[d]? = some z) → leadZ z r = d
  | [], d, h, _, _ => by simp at h; simp [leadZ, h]
  | v :: r, 0, h, h1, h2 => by
    rcases h2 with h2 | h2
    · simp at h2
    · simp at h2
      rw [leadZ, if_pos h2]
  | v :: r, d + 1, h, h1, h2 => by
    have hv : v ≠ z := fun e => h1 0 (by omega) (by simp [e])
    rw [leadZ, if_neg hv, lead_is z r d (by simpa using h) (fun j hj => by simpa using h1 (j + 1) (by omega)) (by simpa using h2)]
/-- Numbers, from a place on, round to there. -/
def rotZ (ws : List Int) (t : Nat) : List Int := ws.drop t ++ ws.take t
theorem rot_len (ws : List Int) (t : Nat) (h : t ≤ ws.length) : (rotZ ws t).length = ws.length := by
  unfold rotZ
  rw [List.length_append, List.length_drop, List.length_take]
  omega
theorem rot_get (ws : List Int) (t j : Nat) (h : t < ws.length) (hj : j < ws.length) : (rotZ ws t)[j]? = ws[(t + j) % ws.length]? := by
  unfold rotZ
  rcases Nat.lt_or_ge j (ws.length - t) with h1 | h1
  · rw [List.getElem?_append_left (by rw [List.length_drop]; exact h1), List.getElem?_drop, Nat.mod_eq_of_lt (by omega)]
  · rw [List.getElem?_append_right (by rw [List.length_drop]; exact h1), List.length_drop, List.getElem?_take_of_lt (by omega)]
    congr 1
    rw [Nat.mod_eq_sub_mod (by omega), Nat.mod_eq_of_lt (by omega)]
    omega
theorem rot_rot (ws : List Int) (f t : Nat) (hf : f < ws.length) (ht : t < ws.length) : ∃ s, s < ws.length ∧ rotZ ws t = rotZ (rotZ ws f) s := by
  have hl : (ws.drop f).length = ws.length - f := List.length_drop
  rcases Nat.lt_or_ge t f with h | h
  · refine ⟨t + (ws.length - f), by omega, ?_⟩
    unfold rotZ
    have e1 : (ws.drop f ++ ws.take f).drop (t + (ws.length - f)) = (ws.take f).drop t := by
      rw [List.drop_append, List.drop_of_length_le (by omega), hl, List.nil_append]
      congr 1; omega
    have e2 : (ws.drop f ++ ws.take f).take (t + (ws.length - f)) = ws.drop f ++ ws.take t := by
      rw [List.take_append, List.take_of_length_le (by omega), hl, List.take_take]
      congr 2; omega
    rw [e1, e2, ← List.append_assoc]
    congr 1
    have e3 : ws.drop t = (ws.take f ++ ws.drop f).drop t := by rw [List.take_append_drop]
    rw [e3, List.drop_append, List.length_take, show t - min f ws.length = 0 by omega, List.drop_zero]
  · refine ⟨t - f, by omega, ?_⟩
    unfold rotZ
    have e1 : (ws.drop f ++ ws.take f).drop (t - f) = ws.drop t ++ ws.take f := by
      rw [List.drop_append, List.drop_drop, hl, show t - f - (ws.length - f) = 0 by omega, List.drop_zero, show f + (t - f) = t by omega]
    have e2 : (ws.drop f ++ ws.take f).take (t - f) = (ws.drop f).take (t - f) := by
      rw [List.take_append, hl, show t - f - (ws.length - f) = 0 by omega, List.take_zero, List.append_nil]
    rw [e1, e2, List.append_assoc]
    congr 1
    have e3 : ws.take t = (ws.take f ++ ws.drop f).take t := by rw [List.take_append_drop]
    rw [e3, List.take_append, List.take_of_length_le (by rw [List.length_take]; omega), List.length_take, show t - min f ws.length = t - f by omega]
theorem rot_onto (ws : List Int) (f s : Nat) (hf : f < ws.length) (hs : s < ws.length) : ∃ t, t < ws.length ∧ rotZ ws t = rotZ (rotZ ws f) s := by
  rcases Nat.lt_or_ge s (ws.length - f) with h | h
  · refine ⟨f + s, by omega, ?_⟩
    have hl : (ws.drop f).length = ws.length - f := List.length_drop
    unfold rotZ
    rw [List.drop_append, List.drop_drop, hl, show s - (ws.length - f) = 0 by omega, List.drop_zero, List.take_append, hl, show s - (ws.length - f) = 0 by omega, List.take_zero, List.append_nil, List.append_assoc]
    congr 1
    have e3 : ws.take (f + s) = (ws.take f ++ ws.drop f).take (f + s) := by rw [List.take_append_drop]
    rw [e3, List.take_append, List.take_of_length_le (by rw [List.length_take]; omega), List.length_take, show f + s - min f ws.length = s by omega]
  · refine ⟨s - (ws.length - f), by omega, ?_⟩
    have hl : (ws.drop f).length = ws.length - f := List.length_drop
    unfold rotZ
    have e1 : (ws.drop f ++ ws.take f).drop s = (ws.take f).drop (s - (ws.length - f)) := by
      rw [List.drop_append, List.drop_of_length_le (by omega), hl, List.nil_append]
    have e2 : (ws.drop f ++ ws.take f).take s = ws.drop f ++ ws.take (s - (ws.length - f)) := by
      rw [List.take_append, List.take_of_length_le (by omega), hl, List.take_take]
      congr 2; omega
    rw [e1, e2, ← List.append_assoc]
    congr 1
    have e3 : ws.drop (s - (ws.length - f)) = (ws.take f ++ ws.drop f).drop (s - (ws.length - f)) := by rw [List.take_append_drop]
    rw [e3, List.drop_append, List.length_take, show s - (ws.length - f) - min f ws.length = 0 by omega, List.drop_zero]
/-- From a z on round to there, each row ends at the end at the latest. -/
theorem lead_rot (z : Int) (r : List Int) (s : Nat) : leadZ z (rotZ (z :: r) s) = leadZ z ((z :: r).drop s) := by
  unfold rotZ
  cases s with
  | zero => simp
  | succ s => rw [List.take_succ_cons]; exact lead_app z _ _
/-- The longest of the rows from each of the first places on, going round. -/
def bestD (z : Int) (ws : List Int) : Nat → Nat
  | 0 => 0
  | k + 1 => max (bestD z ws k) (leadZ z (rotZ ws k))
theorem bestD_ge (z : Int) (ws : List Int) : ∀ k t, t < k → leadZ z (rotZ ws t) ≤ bestD z ws k
  | 0, _, h => absurd h (Nat.not_lt_zero _)
  | k + 1, t, h => by
    rw [bestD]
    rcases Nat.lt_or_ge t k with h1 | h1
    · have := bestD_ge z ws k t h1; omega
    · obtain rfl : t = k := by omega
      omega
theorem bestD_le (z : Int) (ws : List Int) (b : Nat) : ∀ k, (∀ t, t < k → leadZ z (rotZ ws t) ≤ b) → bestD z ws k ≤ b
  | 0, _ => Nat.zero_le _
  | k + 1, h => by
    have h1 := bestD_le z ws b k fun t ht => h t (by omega)
    have h2 := h k (by omega)
    rw [bestD]
    omega
theorem best_none (z : Int) (ws : List Int) (h : z ∉ ws) : bestD z ws ws.length = ws.length := by
  have hl : ∀ t, t ≤ ws.length → leadZ z (rotZ ws t) = ws.length := fun t ht => by
    rw [lead_free, rot_len ws t ht]
    unfold rotZ
    intro hm
    rcases List.mem_append.1 hm with h1 | h1
    · exact h (List.mem_of_mem_drop h1)
    · exact h (List.mem_of_mem_take h1)
  apply Nat.le_antisymm
  · exact bestD_le _ _ _ _ fun t ht => Nat.le_of_eq (hl t (by omega))
  · rcases Nat.eq_zero_or_pos ws.length with h0 | h0
    · omega
    · have := bestD_ge z ws ws.length 0 h0
      rw [hl 0 (by omega)] at this
      exact this
theorem best_some (z : Int) (ws : List Int) (f : Nat) (h : ws[f]? = some z) : bestD z ws ws.length = bestZ z (rotZ ws f) := by
  obtain ⟨hf, e⟩ := List.getElem?_eq_some_iff.1 h
  obtain ⟨r, hr⟩ : ∃ r, rotZ ws f = z :: r := by
    unfold rotZ
    rw [List.drop_eq_getElem_cons hf, e]
    exact ⟨_, rfl⟩
  have hrl : (z :: r).length = ws.length := by rw [← hr, rot_len ws f (by omega)]
  apply Nat.le_antisymm
  · refine bestD_le _ _ _ _ fun t ht => ?_
    obtain ⟨s, hs, e1⟩ := rot_rot ws f t hf ht
    rw [e1, hr, lead_rot]
    exact lead_drop_le z _ s
  · rcases best_at z (rotZ ws f) with h0 | ⟨j, hj, e1⟩
    · omega
    · rw [hr] at hj
      obtain ⟨t, ht, e2⟩ := rot_onto ws f j hf (by omega)
      have := bestD_ge z ws ws.length t ht
      rw [e2, hr, lead_rot] at this
      rw [e1, hr]
      exact this
/-- The greatest divisor of both. -/
theorem gcd_top {a b d : Nat} (hb : 0 < b) (hd : d ∣ a ∧ d ∣ b) (ht : ∀ e, d < e → e ≤ b → ¬ (e ∣ a ∧ e ∣ b)) : Nat.gcd a b = d := by
  have h1 : d ∣ Nat.gcd a b := Nat.dvd_gcd hd.1 hd.2
  have h2 : Nat.gcd a b ≤ b := Nat.le_of_dvd hb (Nat.gcd_dvd_right a b)
  have h3 : 0 < Nat.gcd a b := Nat.gcd_pos_of_pos_right a hb
  have h4 : d ≤ Nat.gcd a b := Nat.le_of_dvd h3 h1
  rcases Nat.lt_or_ge d (Nat.gcd a b) with h | h
  · exact absurd ⟨Nat.gcd_dvd_left a b, Nat.gcd_dvd_right a b⟩ (ht _ h h2)
  · omega
end Go.Proofs.Yteefmdelacihfaa.Nee
