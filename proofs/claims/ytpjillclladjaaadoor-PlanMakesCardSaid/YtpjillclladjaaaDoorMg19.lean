/- Plans in plain words: each tick is its whose period ends first; if any word meets what is needed, this one does. It says nothing of the program. No condition. -/
import Derived.Test.YtpjillclladjaaaDoorMg18
namespace Go.Proofs.YtpjillclladjaaaDoor.Pln

open Go.Proofs.YtpjillclladjaaaDoor.Act (A3 I64)

open Go.Proofs.YtpjillclladjaaaDoor.Nee

open Go.Proofs.YtpjillclladjaaaDoor.Win (cntZ cntZ_more cntZ_le)

set_option linter.unusedVariables false

set_option linter.unusedSimpArgs false

/-- A sum over the first numbers. -/
def sumN (f : Nat → Int) : Nat → Int
  | 0 => 0
  | n + 1 => sumN f n + f n
theorem sumN_le {f g : Nat → Int} : ∀ n, (∀ k, k < n → f k ≤ g k) → sumN f n ≤ sumN g n
  | 0, _ => Int.le_refl _
  | n + 1, h => by
    have := sumN_le n fun k hk => h k (by omega)
    have := h n (by omega)
    unfold sumN
    omega
theorem sumN_eq {f g : Nat → Int} (n : Nat) (h : ∀ k, k < n → f k = g k) : sumN f n = sumN g n :=
  Int.le_antisymm (sumN_le n fun k hk => Int.le_of_eq (h k hk)) (sumN_le n fun k hk => Int.le_of_eq (h k hk).symm)
theorem sumN_pos {f : Nat → Int} : ∀ n, (∀ k, k < n → 0 ≤ f k) → 0 ≤ sumN f n ∧ ∀ k, k < n → f k ≤ sumN f n
  | 0, _ => ⟨Int.le_refl _, fun k hk => by omega⟩
  | n + 1, h => by
    have h1 := sumN_pos n fun k hk => h k (by omega)
    have h2 := h n (by omega)
    unfold sumN
    refine ⟨by omega, fun k hk => ?_⟩
    rcases Nat.lt_or_ge k n with h3 | h3
    · have := h1.2 k h3; omega
    · obtain rfl : k = n := by omega
      omega
theorem sumN_upd (f : Nat → Int) (b : Nat) : ∀ n, sumN (fun k => if k = b then f k - 1 else f k) n = sumN f n - (if b < n then 1 else 0)
  | 0 => by simp [sumN]
  | n + 1 => by
    have ih := sumN_upd f b n
    unfold sumN
    rw [ih]
    by_cases h : n = b
    · subst h
      simp; omega
    · rw [if_neg h]
      by_cases h2 : b < n
      · rw [if_pos h2, if_pos (by omega)]; omega
      · rw [if_neg h2, if_neg (by omega)]; omega
/-- The need of a number. -/
def nd (l : List A3) (k : Nat) : A3 := l[k]?.getD ⟨0, 1, 0⟩
theorem nd_at {l : List A3} {k : Nat} (h : k < l.length) : l[k]? = some (nd l k) := by
  unfold nd
  rw [List.getElem?_eq_getElem h]; rfl
theorem nd_mem {l : List A3} {k : Nat} (h : k < l.length) : nd l k ∈ l := List.mem_of_getElem? (nd_at h)
/-- Where the period ends that a tick is in. -/
def endZ (t p : Int) : Int := t - t % p + p
def begR (l : List A3) (t : Int) (r : Nat → Int) : Nat → Int := fun k => if t % (nd l k).p = 0 then (nd l k).a else r k
def bstR (l : List A3) (t : Int) (r : Nat → Int) : Nat → Int
  | 0 => -1
  | k + 1 => if 0 < r k ∧ (bstR l t r k < 0 ∨ endZ t (nd l k).p < endZ t (nd l (bstR l t r k).toNat).p) then (k : Int) else bstR l t r k
def updR (r : Nat → Int) (b : Int) : Nat → Int := fun k => if (k : Int) = b then r k - 1 else r k
def idR (l : List A3) (b : Int) : Int := if b < 0 then -1 else (nd l b.toNat).s
def bestR (l : List A3) (t : Int) (r : Nat → Int) : Int := bstR l t (begR l t r) l.length
def runR (l : List A3) : Nat → (Nat → Int) × List Int
  | 0 => (fun _ => 0, [])
  | t + 1 => (updR (begR l t (runR l t).1) (bestR l t (runR l t).1), (runR l t).2 ++ [idR l (bestR l t (runR l t).1)])
/-- The first that is late behind a tick; or -1. -/
def ltR (l : List A3) (t : Int) (r : Nat → Int) : Nat → Int
  | 0 => -1
  | k + 1 => if 0 ≤ ltR l t r k then ltR l t r k else if 0 < r k ∧ endZ t (nd l k).p = t + 1 then (k : Int) else -1
def lateR (l : List A3) (t : Nat) : Int := ltR l t (runR l (t + 1)).1 l.length
/-- The first that is late at all; or -1. -/
def flR (l : List A3) : Nat → Int
  | 0 => -1
  | t + 1 => if 0 ≤ flR l t then flR l t else lateR l t
theorem run_len (l : List A3) : ∀ t, (runR l t).2.length = t
  | 0 => rfl
  | t + 1 => by
    unfold runR
    rw [List.length_append, run_len l t]; rfl
theorem bst_range (l : List A3) (t : Int) (r : Nat → Int) : ∀ n, bstR l t r n = -1 ∨ ∃ m, m < n ∧ bstR l t r n = (m : Int)
  | 0 => .inl rfl
  | n + 1 => by
    unfold bstR
    split
    · exact .inr ⟨n, by omega, rfl⟩
    · rcases bst_range l t r n with h | ⟨m, h1, h2⟩
      · exact .inl h
      · exact .inr ⟨m, by omega, h2⟩
theorem bst_spec (l : List A3) (t : Int) (r : Nat → Int) : ∀ n, (bstR l t r n = -1 ∧ ∀ k, k < n → r k ≤ 0) ∨ ∃ m, m < n ∧ bstR l t r n = (m : Int) ∧ 0 < r m ∧ ∀ k, k < n → 0 < r k → endZ t (nd l m).p ≤ endZ t (nd l k).p
  | 0 => .inl ⟨rfl, fun k hk => by omega⟩
  | n + 1 => by
    rcases bst_spec l t r n with ⟨h1, h2⟩ | ⟨m, h1, h2, h3, h4⟩
    · unfold bstR
      rw [h1]
      by_cases hr : 0 < r n
      · rw [if_pos ⟨hr, .inl (by omega)⟩]
        refine .inr ⟨n, by omega, rfl, hr, fun k hk hk0 => ?_⟩
        rcases Nat.lt_or_ge k n with h | h
        · have := h2 k h; omega
        · obtain rfl : k = n := by omega
          exact Int.le_refl _
      · rw [if_neg (fun h => hr h.1)]
        refine .inl ⟨rfl, fun k hk => ?_⟩
        rcases Nat.lt_or_ge k n with h | h
        · exact h2 k h
        · obtain rfl : k = n := by omega
          omega
    · unfold bstR
      rw [h2]
      have e : ((m : Int)).toNat = m := by omega
      rw [e]
      by_cases hc : 0 < r n ∧ ((m : Int) < 0 ∨ endZ t (nd l n).p < endZ t (nd l m).p)
      · rw [if_pos hc]
        refine .inr ⟨n, by omega, rfl, hc.1, fun k hk hk0 => ?_⟩
        rcases Nat.lt_or_ge k n with h | h
        · have := h4 k h hk0
          rcases hc.2 with h5 | h5
          · omega
          · omega
        · obtain rfl : k = n := by omega
          exact Int.le_refl _
      · rw [if_neg hc]
        refine .inr ⟨m, by omega, rfl, h3, fun k hk hk0 => ?_⟩
        rcases Nat.lt_or_ge k n with h | h
        · exact h4 k h hk0
        · obtain rfl : k = n := by omega
          rcases Int.lt_or_le (endZ t (nd l k).p) (endZ t (nd l m).p) with h5 | h5
          · exact absurd ⟨hk0, .inr h5⟩ hc
          · exact h5
theorem lt_range (l : List A3) (t : Int) (r : Nat → Int) : ∀ n, (ltR l t r n = -1 ∧ ∀ k, k < n → ¬ (0 < r k ∧ endZ t (nd l k).p = t + 1)) ∨ ∃ m, m < n ∧ ltR l t r n = (m : Int) ∧ (0 < r m ∧ endZ t (nd l m).p = t + 1) ∧ ∀ k, k < m → ¬ (0 < r k ∧ endZ t (nd l k).p = t + 1)
  | 0 => .inl ⟨rfl, fun k hk => by omega⟩
  | n + 1 => by
    unfold ltR
    rcases lt_range l t r n with ⟨h1, h2⟩ | ⟨m, h1, h2, h3, h4⟩
    · rw [h1, if_neg (by omega)]
      by_cases hc : 0 < r n ∧ endZ t (nd l n).p = t + 1
      · rw [if_pos hc]
        exact .inr ⟨n, by omega, rfl, hc, h2⟩
      · rw [if_neg hc]
        refine .inl ⟨rfl, fun k hk => ?_⟩
        rcases Nat.lt_or_ge k n with h | h
        · exact h2 k h
        · obtain rfl : k = n := by omega
          exact hc
    · rw [h2, if_pos (by omega)]
      exact .inr ⟨m, by omega, rfl, h3, h4⟩
/-- Ticks and their periods. -/
theorem mod_next {t p : Int} (hp : 1 ≤ p) : ((t + 1) % p = 0 ∧ endZ t p = t + 1 ∧ endZ (t + 1) p = t + 1 + p) ∨ ((t + 1) % p ≠ 0 ∧ endZ (t + 1) p = endZ t p ∧ t + 1 < endZ t p ∧ (t + 1) % p = t % p + 1) := by
  have h0 := Int.emod_nonneg t (show p ≠ 0 by omega)
  have h1 := Int.emod_lt_of_pos t (show 0 < p by omega)
  have h2 : (t + 1) % p = (t % p + 1) % p := (Int.emod_add_emod _ _ _).symm
  unfold endZ
  rcases Int.lt_or_le (t % p + 1) p with h | h
  · rw [Int.emod_eq_of_lt (by omega) h] at h2
    exact .inr ⟨by omega, by omega, by omega, h2⟩
  · have e : t % p + 1 = p := by omega
    rw [e, Int.emod_self] at h2
    exact .inl ⟨h2, by omega, by omega⟩
theorem end_gt {t p : Int} (hp : 1 ≤ p) : t + 1 ≤ endZ t p ∧ endZ t p ≤ t + p := by
  have h0 := Int.emod_nonneg t (show p ≠ 0 by omega)
  have h1 := Int.emod_lt_of_pos t (show 0 < p by omega)
  unfold endZ
  omega
theorem end_dvd (t p : Int) : p ∣ endZ t p := by
  have h : t - t % p = p * (t / p) := by have := Int.emod_add_mul_ediv t p; omega
  unfold endZ
  rw [h]
  exact ⟨t / p + 1, by rw [Int.mul_add, Int.mul_one]⟩
/-- What is wanted by a tick, by what is open and what comes. -/
def demF (l : List A3) (t : Int) (r : Nat → Int) (d : Int) (k : Nat) : Int := if endZ t (nd l k).p ≤ d then r k + (nd l k).a * ((d - endZ t (nd l k).p) / (nd l k).p) else 0
def NdOk (l : List A3) : Prop := ∀ k, k < l.length → 1 ≤ (nd l k).p ∧ 0 ≤ (nd l k).a
theorem dem_next (l : List A3) (hl : NdOk l) (t : Int) (r : Nat → Int) (hr : ∀ k, k < l.length → endZ t (nd l k).p = t + 1 → r k = 0) (d : Int) (hd : t + 1 ≤ d) :
    sumN (demF l (t + 1) (begR l (t + 1) r) d) l.length = sumN (demF l t r d) l.length := by
  refine sumN_eq _ fun k hk => ?_
  obtain ⟨hp, ha⟩ := hl k hk
  unfold demF begR
  rcases mod_next (t := t) hp with ⟨h1, h2, h3⟩ | ⟨h1, h2, h3, _⟩
  · rw [if_pos h1, h2, h3, if_pos hd, hr k hk h2]
    have e : (d - (t + 1 + (nd l k).p)) / (nd l k).p = (d - (t + 1)) / (nd l k).p - 1 := by
      have h : d - (t + 1 + (nd l k).p) = (d - (t + 1)) + (-1) * (nd l k).p := by omega
      rw [h, Int.add_mul_ediv_right _ _ (by omega)]; omega
    by_cases c : t + 1 + (nd l k).p ≤ d
    · rw [if_pos c, e, Int.mul_sub, Int.mul_one]; omega
    · rw [if_neg c, Int.ediv_eq_zero_of_lt (by omega) (by omega), Int.mul_zero]; rfl
  · rw [if_neg h1, h2]
theorem dem_step (l : List A3) (hl : NdOk l) (fr : Int) (hB : ∀ t d : Int, -1 ≤ t → t + 1 ≤ d → d ≤ fr → sumN (demF l t (fun _ => 0) d) l.length ≤ d - (t + 1)) (t : Int) (ht : 0 ≤ t) (r : Nat → Int) (hr : ∀ k, k < l.length → 0 ≤ r k)
    (h1 : ∀ d, t ≤ d → d ≤ fr → sumN (demF l t r d) l.length ≤ d - t) (d : Int) (hd : t + 1 ≤ d) (hf : d ≤ fr) : sumN (demF l t (updR r (bstR l t r l.length)) d) l.length ≤ d - (t + 1) := by
  have hno : (∀ k, k < l.length → endZ t (nd l k).p ≤ d → updR r (bstR l t r l.length) k = 0) → sumN (demF l t (updR r (bstR l t r l.length)) d) l.length ≤ d - (t + 1) := by
    intro h
    refine Int.le_trans (Int.le_of_eq ?_) (hB t d (by omega) hd hf)
    refine sumN_eq _ fun k hk => ?_
    unfold demF
    by_cases c : endZ t (nd l k).p ≤ d
    · rw [if_pos c, if_pos c, h k hk c]
    · rw [if_neg c, if_neg c]
  rcases bst_spec l t r l.length with ⟨e, h2⟩ | ⟨m, hm, e, h3, h4⟩
  · refine hno fun k hk _ => ?_
    rw [e]
    unfold updR
    rw [if_neg (by omega)]
    have := h2 k hk
    have := hr k hk
    omega
  · by_cases c : endZ t (nd l m).p ≤ d
    · have h5 : sumN (demF l t (updR r (bstR l t r l.length)) d) l.length = sumN (fun k => if k = m then demF l t r d k - 1 else demF l t r d k) l.length := by
        refine sumN_eq _ fun k hk => ?_
        rw [e]
        unfold demF updR
        by_cases hkm : k = m
        · subst hkm
          rw [if_pos c, if_pos c, if_pos rfl, if_pos rfl]; omega
        · rw [if_neg hkm, if_neg (show ¬ (k : Int) = (m : Int) by omega)]
      rw [h5, sumN_upd, if_pos hm]
      have := h1 d (by omega) hf
      omega
    · refine hno fun k hk hkd => ?_
      rw [e]
      unfold updR
      have hkm : ¬ (k : Int) = (m : Int) := fun h => by
        have : k = m := by omega
        subst this
        exact c hkd
      rw [if_neg hkm]
      rcases Int.lt_or_le 0 (r k) with h5 | h5
      · have := h4 k hk h5
        omega
      · have := hr k hk
        omega
theorem upd_pos (l : List A3) (t : Int) (r : Nat → Int) (n : Nat) (hr : ∀ k, k < n → 0 ≤ r k) (k : Nat) (hk : k < n) : 0 ≤ updR r (bstR l t r n) k ∧ updR r (bstR l t r n) k ≤ r k := by
  unfold updR
  have h0 := hr k hk
  rcases bst_spec l t r n with ⟨e, _⟩ | ⟨m, hm, e, h3, _⟩
  · rw [e, if_neg (by omega)]; omega
  · rw [e]
    split
    · rename_i h
      have : k = m := by omega
      subst this
      omega
    · omega
theorem run_pos (l : List A3) (hl : NdOk l) : ∀ (t : Nat) (k : Nat), k < l.length → (0 ≤ (runR l t).1 k ∧ (runR l t).1 k ≤ (nd l k).a) ∧ (0 ≤ begR l t (runR l t).1 k ∧ begR l t (runR l t).1 k ≤ (nd l k).a)
  | 0, k, hk => by
    have := (hl k hk).2
    unfold runR begR
    refine ⟨⟨Int.le_refl _, this⟩, ?_⟩
    split
    · omega
    · exact ⟨Int.le_refl _, this⟩
  | t + 1, k, hk => by
    have ha := (hl k hk).2
    have h1 := upd_pos l t (begR l t (runR l t).1) l.length (fun k hk => (run_pos l hl t k hk).2.1) k hk
    have h2 := (run_pos l hl t k hk).2
    have h3 : 0 ≤ (runR l (t + 1)).1 k ∧ (runR l (t + 1)).1 k ≤ (nd l k).a := ⟨h1.1, by have := h1.2; show updR _ (bstR _ _ _ _) k ≤ _; omega⟩
    refine ⟨h3, ?_⟩
    unfold begR
    split
    · omega
    · exact h3
/-- If nothing that is wanted is too much, nothing is late. -/
theorem none_late (l : List A3) (hl : NdOk l) (fr : Nat) (hB : ∀ t d : Int, -1 ≤ t → t + 1 ≤ d → d ≤ fr → sumN (demF l t (fun _ => 0) d) l.length ≤ d - (t + 1)) :
    ∀ t : Nat, t ≤ fr → flR l t = -1 ∧ ∀ d : Int, (t : Int) ≤ d → d ≤ fr → sumN (demF l t (begR l t (runR l t).1) d) l.length ≤ d - t
  | 0, _ => by
    refine ⟨rfl, fun d hd hf => ?_⟩
    have h1 := dem_next l hl (-1) (fun _ => 0) (fun _ _ _ => rfl) d (by omega)
    have h2 := hB (-1) d (Int.le_refl _) (by omega) hf
    rw [← h1] at h2
    exact h2
  | t + 1, ht => by
    obtain ⟨h1, h2⟩ := none_late l hl fr hB t (by omega)
    have h3 := dem_step l hl fr hB t (by omega) (begR l t (runR l t).1) (fun k hk => (run_pos l hl t k hk).2.1) h2
    have h4 : ∀ k, k < l.length → endZ t (nd l k).p = (t : Int) + 1 → (runR l (t + 1)).1 k = 0 := by
      intro k hk he
      have h5 := h3 (t + 1) (by omega) (by omega)
      have h6 := (sumN_pos (f := demF l t (runR l (t + 1)).1 (t + 1)) l.length (fun j hj => by
        have := (run_pos l hl (t + 1) j hj).1.1
        obtain ⟨hp, ha⟩ := hl j hj
        unfold demF
        split
        · rename_i hle
          have h8 := Int.ediv_nonneg (show 0 ≤ (t : Int) + 1 - endZ t (nd l j).p by omega) (show 0 ≤ (nd l j).p by omega)
          have := Int.mul_nonneg ha h8
          omega
        · exact Int.le_refl _)).2 k hk
      have h7 : demF l t (runR l (t + 1)).1 (t + 1) k = (runR l (t + 1)).1 k := by
        unfold demF
        rw [if_pos (by omega), he, Int.sub_self, Int.zero_ediv, Int.mul_zero, Int.add_zero]
      have h8 := (run_pos l hl (t + 1) k hk).1.1
      have h9 : sumN (demF l t (runR l (t + 1)).1 (t + 1)) l.length ≤ (t : Int) + 1 - ((t : Int) + 1) := h5
      omega
    refine ⟨?_, fun d hd hf => ?_⟩
    · unfold flR
      rw [h1, if_neg (by omega)]
      unfold lateR
      rcases lt_range l t (runR l (t + 1)).1 l.length with ⟨e, _⟩ | ⟨m, hm, _, ⟨h5, h6⟩, _⟩
      · exact e
      · have := h4 m hm h6
        omega
    · have h5 := dem_next l hl t (runR l (t + 1)).1 h4 d (by omega)
      have h6 := h3 d (by omega) hf
      rw [show ((t + 1 : Nat) : Int) = (t : Int) + 1 by omega, h5]
      exact h6
/-- How often a number stands ahead of a place. -/
def cnP (w : List Int) (s : Int) (m : Nat) : Nat := cntZ s (w.take m)
theorem cnP_more (w : List Int) (s : Int) {m : Nat} (h : m < w.length) : cnP w s (m + 1) = cnP w s m + (if vz w m = s then 1 else 0) := cntZ_more s w m _ (vz_at h)
theorem cnP_mono (w : List Int) (s : Int) (m : Nat) : ∀ n, cnP w s m ≤ cnP w s (m + n)
  | 0 => Nat.le_refl _
  | n + 1 => by
    have ih := cnP_mono w s m n
    rcases Nat.lt_or_ge (m + n) w.length with h | h
    · have := cnP_more w s h
      rw [show m + (n + 1) = m + n + 1 by omega]
      omega
    · have e : cnP w s (m + (n + 1)) = cnP w s (m + n) := by
        unfold cnP
        rw [List.take_of_length_le (by omega), List.take_of_length_le (by omega)]
      omega
theorem chk_cnP (w : List Int) (s : Int) (p k : Nat) : cntZ s (chkZ w p k) + cnP w s (k * p) = cnP w s (k * p + p) := by
  unfold chkZ cnP
  have h : w.take (k * p + p) = w.take (k * p) ++ (w.drop (k * p)).take p := List.take_add
  rw [h, cntZ_app]
  omega
/-- The word gives at least so much in each period. -/
def Meets (w : List Int) (x : A3) : Prop := ∀ k : Nat, (k + 1) * x.p.toNat ≤ w.length → x.a ≤ (cntZ x.s (chkZ w x.p.toNat k) : Nat)
theorem meets_sum (w : List Int) (x : A3) (hp : 1 ≤ x.p) (hm : Meets w x) (k : Nat) : ∀ q : Nat, (k + q) * x.p.toNat ≤ w.length → x.a * (q : Int) + (cnP w x.s (k * x.p.toNat) : Nat) ≤ (cnP w x.s ((k + q) * x.p.toNat) : Nat)
  | 0, _ => by simp
  | q + 1, h => by
    have h1 : (k + q + 1) * x.p.toNat = (k + q) * x.p.toNat + x.p.toNat := by rw [Nat.add_mul, Nat.one_mul]
    have ih := meets_sum w x hp hm k q (by rw [← Nat.add_assoc, h1] at h; omega)
    have h2 := hm (k + q) h
    have h3 := chk_cnP w x.s x.p.toNat (k + q)
    rw [← Nat.add_assoc, h1, ← h3]
    have h4 : x.a * ((q + 1 : Nat) : Int) = x.a * (q : Int) + x.a := by rw [Int.natCast_add, Int.mul_add]; simp
    rw [h4]
    omega
theorem sum_one (l : List A3) (hd : ∀ i j, i < j → j < l.length → (nd l i).s < (nd l j).s) (v : Int) : ∀ n, n ≤ l.length → (sumN (fun k => if v = (nd l k).s then 1 else 0) n ≤ 1 ∧ ∀ m, m < l.length → n ≤ m → v = (nd l m).s → sumN (fun k => if v = (nd l k).s then 1 else 0) n = 0)
  | 0, _ => ⟨by simp [sumN], fun _ _ _ _ => rfl⟩
  | n + 1, h => by
    obtain ⟨h1, h2⟩ := sum_one l hd v n (by omega)
    unfold sumN
    by_cases c : v = (nd l n).s
    · rw [h2 n (by omega) (Nat.le_refl _) c, if_pos c]
      refine ⟨by omega, fun m hm hnm e => ?_⟩
      have := hd n m (by omega) hm
      omega
    · rw [if_neg c]
      refine ⟨by omega, fun m hm hnm e => ?_⟩
      rw [h2 m hm (by omega) e]; rfl
theorem sumN_add (f g : Nat → Int) : ∀ n, sumN (fun k => f k + g k) n = sumN f n + sumN g n
  | 0 => rfl
  | n + 1 => by
    unfold sumN
    rw [sumN_add f g n]; omega
theorem count_all (l : List A3) (hd : ∀ i j, i < j → j < l.length → (nd l i).s < (nd l j).s) (w : List Int) (m : Nat) : ∀ n, m + n ≤ w.length → sumN (fun k => (cnP w (nd l k).s (m + n) : Int) - (cnP w (nd l k).s m : Int)) l.length ≤ (n : Int)
  | 0, _ => by
    have : sumN (fun k => (cnP w (nd l k).s (m + 0) : Int) - (cnP w (nd l k).s m : Int)) l.length = sumN (fun _ => 0) l.length := sumN_eq _ fun k _ => by simp
    rw [this]
    have : ∀ n, sumN (fun _ => 0) n = 0 := fun n => by
      induction n with
      | zero => rfl
      | succ n ih => unfold sumN; rw [ih]; rfl
    rw [this]; simp
  | n + 1, h => by
    have ih := count_all l hd w m n (by omega)
    have h1 := (sum_one l hd (vz w (m + n)) l.length (Nat.le_refl _)).1
    have h2 : sumN (fun k => (cnP w (nd l k).s (m + (n + 1)) : Int) - (cnP w (nd l k).s m : Int)) l.length = sumN (fun k => ((cnP w (nd l k).s (m + n) : Int) - (cnP w (nd l k).s m : Int)) + (if vz w (m + n) = (nd l k).s then 1 else 0)) l.length := by
      refine sumN_eq _ fun k _ => ?_
      have := cnP_more w (nd l k).s (m := m + n) (by omega)
      rw [show m + (n + 1) = m + n + 1 by omega, this]
      split <;> simp <;> omega
    rw [h2, sumN_add]
    omega
/-- A word that meets all: what comes is never too much. -/
theorem base_word (l : List A3) (hl : NdOk l) (hd : ∀ i j, i < j → j < l.length → (nd l i).s < (nd l j).s) (w : List Int) (hm : ∀ k, k < l.length → Meets w (nd l k)) (t d : Int) (ht : -1 ≤ t) (h1 : t + 1 ≤ d) (h2 : d ≤ (w.length : Int)) :
    sumN (demF l t (fun _ => 0) d) l.length ≤ d - (t + 1) := by
  obtain ⟨m, hm1⟩ : ∃ m : Nat, (m : Int) = t + 1 := ⟨(t + 1).toNat, by omega⟩
  obtain ⟨n, hn1⟩ : ∃ n : Nat, (n : Int) = d - (t + 1) := ⟨(d - (t + 1)).toNat, by omega⟩
  have h3 := count_all l hd w m n (by omega)
  rw [← hn1]
  refine Int.le_trans (sumN_le _ fun k hk => ?_) h3
  obtain ⟨hp, ha⟩ := hl k hk
  have hmono := cnP_mono w (nd l k).s m n
  unfold demF
  by_cases c : endZ t (nd l k).p ≤ d
  · rw [if_pos c]
    obtain ⟨e, he⟩ := end_dvd t (nd l k).p
    have hg := end_gt (t := t) hp
    have hpos : 0 < (nd l k).p := by omega
    obtain ⟨P, hP⟩ : ∃ P : Nat, (nd l k).p = (P : Int) := ⟨(nd l k).p.toNat, by omega⟩
    have he0 : 0 ≤ e := by
      rcases Int.lt_or_le e 0 with h | h
      · have := Int.mul_neg_of_pos_of_neg hpos h
        omega
      · exact h
    obtain ⟨E, rfl⟩ : ∃ E : Nat, e = (E : Int) := ⟨e.toNat, by omega⟩
    have hq0 := Int.ediv_nonneg (show 0 ≤ d - endZ t (nd l k).p by omega) (show 0 ≤ (nd l k).p by omega)
    obtain ⟨q, hq⟩ : ∃ q : Nat, (d - endZ t (nd l k).p) / (nd l k).p = (q : Int) := ⟨((d - endZ t (nd l k).p) / (nd l k).p).toNat, by omega⟩
    rw [hq]
    have hq1 := Int.mul_ediv_self_le (x := d - endZ t (nd l k).p) (k := (nd l k).p) (by omega)
    rw [hq] at hq1
    have hEn : ((E * P : Nat) : Int) = endZ t (nd l k).p := by rw [he, hP, Int.natCast_mul, Int.mul_comm]
    have hqn : ((q * P : Nat) : Int) ≤ d - endZ t (nd l k).p := by
      rw [hP, Int.mul_comm] at hq1
      rw [Int.natCast_mul, hP]; exact hq1
    have hsum : (E + q) * P = E * P + q * P := Nat.add_mul _ _ _
    have hPt : (nd l k).p.toNat = P := by omega
    have h5 := meets_sum w (nd l k) hp (hm k hk) E q (by rw [hPt, hsum]; omega)
    rw [hPt] at h5
    show (0 : Int) + (nd l k).a * (q : Int) ≤ _
    have h6 := cnP_mono w (nd l k).s m (E * P - m)
    rw [show m + (E * P - m) = E * P by omega] at h6
    have h7 := cnP_mono w (nd l k).s ((E + q) * P) (m + n - (E + q) * P)
    rw [show (E + q) * P + (m + n - (E + q) * P) = m + n by omega] at h7
    omega
  · rw [if_neg c]
    omega
/-- The plan of needs that a word meets. -/
theorem plan_best (l : List A3) (hl : NdOk l) (hd : ∀ i j, i < j → j < l.length → (nd l i).s < (nd l j).s) (w : List Int) (hm : ∀ k, k < l.length → Meets w (nd l k)) : flR l w.length = -1 :=
  (none_late l hl w.length (fun t d h1 h2 h3 => base_word l hl hd w hm t d h1 h2 h3) w.length (Nat.le_refl _)).1
end Go.Proofs.YtpjillclladjaaaDoor.Pln
