
/- Plans in plain words: needs that a word meets have a plan, and it meets them. It says nothing of the program. No condition. -/

import Derived.Test.YtpjillclladjaaaDoorPlnI

namespace Go.Proofs.YtpjillclladjaaaDoor.Pln

open Go.Proofs.YtpjillclladjaaaDoor.Act (A3 I64)

open Go.Proofs.YtpjillclladjaaaDoor.Nee

open Go.Proofs.YtpjillclladjaaaDoor.Win (cntZ cntZ_more cntZ_le)

set_option linter.unusedVariables false

set_option linter.unusedSimpArgs false

theorem chkP_zero (fr : Int) : ∀ (l : List A3) (last : Int) (i : Nat), (∀ x ∈ l, last < x.s ∧ 0 ≤ x.s ∧ x.s ≤ 255 ∧ 1 ≤ x.p ∧ fr % x.p = 0 ∧ 0 ≤ x.a ∧ x.a ≤ x.p) → l.Pairwise (fun a b => a.s < b.s) → (chkP fr last i l).1 = 0
  | [], _, _, _, _ => rfl
  | x :: r, last, i, h, hp => by
    obtain ⟨h1, h2, h3, h4, h5, h6, h7⟩ := h x List.mem_cons_self
    have hb : bad1P fr last x = 0 := by
      unfold bad1P
      rw [if_neg (by omega), if_neg (by omega), if_neg (by rw [h5]; omega), if_neg (by omega)]
    unfold chkP
    rw [if_pos hb]
    have hp2 := List.pairwise_cons.1 hp
    exact chkP_zero fr r x.s (i + 1) (fun y hy => ⟨hp2.1 y hy, (h y (List.mem_cons_of_mem _ hy)).2⟩) hp2.2
theorem minC_at (z : Int) (zs : List Int) (p b : Nat) : ∀ K k, k < K → minC z zs p b K ≤ cntZ z (chkZ zs p k)
  | 0, _, h => by omega
  | K + 1, k, h => by
    unfold minC
    rcases Nat.lt_or_ge k K with h1 | h1
    · have := minC_at z zs p b K k h1; omega
    · obtain rfl : k = K := by omega
      omega
theorem minC_least (z : Int) (zs : List Int) (p b a : Nat) (hb : a ≤ b) : ∀ K, (∀ k, k < K → a ≤ cntZ z (chkZ zs p k)) → a ≤ minC z zs p b K
  | 0, _ => hb
  | K + 1, h => by
    have h1 := minC_least z zs p b a hb K fun k hk => h k (by omega)
    have h2 := h K (by omega)
    unfold minC
    omega
/-- The need of a number: as much as a word gives it. -/
def ndB (ws ps : List Int) (j : Nat) : A3 := ⟨(j : Int), vz ps j, (minC (j : Int) ws (vz ps j).toNat (vz ps j).toNat (ws.length / (vz ps j).toNat) : Nat)⟩
def ndsB (ws ps : List Int) (k : Nat) : List A3 := (List.range k).map (ndB ws ps)
theorem ndsB_len (ws ps : List Int) (k : Nat) : (ndsB ws ps k).length = k := by simp [ndsB]
theorem ndsB_snoc (ws ps : List Int) (k : Nat) : ndsB ws ps (k + 1) = ndsB ws ps k ++ [ndB ws ps k] := by
  unfold ndsB
  rw [List.range_succ, List.map_append]; rfl
theorem ndsB_get (ws ps : List Int) {k j : Nat} (h : j < k) : (ndsB ws ps k)[j]? = some (ndB ws ps j) := by
  unfold ndsB
  rw [List.getElem?_map, List.getElem?_range h]; rfl
theorem ndsB_nd (ws ps : List Int) {k j : Nat} (h : j < k) : nd (ndsB ws ps k) j = ndB ws ps j := by
  unfold nd
  rw [ndsB_get ws ps h]; rfl
theorem part_mul {n p : Nat} (hp : 1 ≤ p) (h : ((n : Nat) : Int) % ((p : Nat) : Int) = 0) : n / p * p = n := by
  have h2 : n % p = 0 := by
    have := Int.natCast_emod n p
    omega
  have := Nat.div_add_mod n p
  rw [Nat.mul_comm]; omega
theorem best_ok (ws ps : List Int) (m : Nat) (hm : m ≤ 256) (hw : 1 ≤ ws.length ∧ ws.length ≤ 4096) (hp : ∀ j, j < m → 1 ≤ vz ps j ∧ ((ws.length : Nat) : Int) % vz ps j = 0) :
    mkW (ws.length : Int) (ndsB ws ps m) = (0, []) ∧ ∀ j, j < m → (ndB ws ps j).a ≤ (minC (j : Int) (runR (ndsB ws ps m) ws.length).2 (vz ps j).toNat (vz ps j).toNat (ws.length / (vz ps j).toNat) : Nat) := by
  have hle : ∀ j, j < m → 0 ≤ (ndB ws ps j).a ∧ (ndB ws ps j).a ≤ (ndB ws ps j).p := fun j hj => by
    have h1 := (hp j hj).1
    have h2 := minC_le (j : Int) ws (vz ps j).toNat (vz ps j).toNat (ws.length / (vz ps j).toNat)
    unfold ndB
    dsimp only
    omega
  have hch : (chkP (ws.length : Int) (-1) 0 (ndsB ws ps m)).1 = 0 := by
    refine chkP_zero _ _ _ _ (fun x hx => ?_) ?_
    · obtain ⟨j, hj, rfl⟩ := List.mem_map.1 hx
      have hj2 : j < m := List.mem_range.1 hj
      obtain ⟨h1, h2⟩ := hp j hj2
      obtain ⟨h3, h4⟩ := hle j hj2
      refine ⟨?_, ?_, ?_, h1, h2, h3, h4⟩
      · show (-1 : Int) < (j : Int); omega
      · show (0 : Int) ≤ (j : Int); omega
      · show (j : Int) ≤ 255; omega
    · unfold ndsB
      rw [List.pairwise_map]
      refine List.Pairwise.imp ?_ List.pairwise_lt_range
      intro a b h
      show (a : Int) < (b : Int)
      omega
  obtain ⟨hper, hids, _⟩ := perOk_of (fr := (ws.length : Int)) (by omega) hch
  have hdiv : ∀ j, j < m → ws.length / (vz ps j).toNat * (vz ps j).toNat = ws.length := fun j hj => by
    obtain ⟨h1, h2⟩ := hp j hj
    refine part_mul (by omega) ?_
    rw [show (((vz ps j).toNat : Nat) : Int) = vz ps j by omega]; exact h2
  have hmeet : ∀ k, k < (ndsB ws ps m).length → Meets ws (nd (ndsB ws ps m) k) := fun k hk => by
    rw [ndsB_len] at hk
    rw [ndsB_nd ws ps hk]
    intro i hi
    have hi2 : (i + 1) * (vz ps k).toNat ≤ ws.length := hi
    have hlt : i < ws.length / (vz ps k).toNat := by
      have h1 := (hp k hk).1
      exact (Nat.le_div_iff_mul_le (by omega)).2 hi2
    have := minC_at (k : Int) ws (vz ps k).toNat (vz ps k).toNat (ws.length / (vz ps k).toNat) i hlt
    show ((minC (k : Int) ws (vz ps k).toNat (vz ps k).toNat (ws.length / (vz ps k).toNat) : Nat) : Int) ≤ (cntZ (k : Int) (chkZ ws (vz ps k).toNat i) : Nat)
    omega
  have hfl := plan_best (ndsB ws ps m) hper.nd hids.1 ws hmeet
  refine ⟨?_, fun j hj => ?_⟩
  · unfold mkW
    rw [if_neg (by omega), if_neg (by rw [hch]; simp), show ((ws.length : Int)).toNat = ws.length from by omega, hfl, if_neg (by omega)]
  · have h1 := plan_meets (ndsB ws ps m) hper.nd hids ws.length hfl j (by rw [ndsB_len]; exact hj)
    rw [ndsB_nd ws ps hj] at h1
    obtain ⟨h3, h4⟩ := hle j hj
    have hpj : (ndB ws ps j).p = vz ps j := rfl
    obtain ⟨a, ha⟩ : ∃ a : Nat, (ndB ws ps j).a = (a : Int) := ⟨(ndB ws ps j).a.toNat, by omega⟩
    have h2 := minC_least (j : Int) (runR (ndsB ws ps m) ws.length).2 (vz ps j).toNat (vz ps j).toNat a (by omega) (ws.length / (vz ps j).toNat) (fun k hk => by
      have hk2 : (k + 1) * (vz ps j).toNat ≤ ws.length := by
        have := Nat.mul_le_mul_right (vz ps j).toNat (show k + 1 ≤ ws.length / (vz ps j).toNat from hk)
        rw [hdiv j hj] at this
        exact this
      have := h1 k (by rw [run_len]; exact hk2)
      rw [ha] at this
      have h5 : ((a : Nat) : Int) ≤ (cntZ (j : Int) (chkZ (runR (ndsB ws ps m) ws.length).2 (vz ps j).toNat k) : Nat) := this
      omega)
    rw [ha]
    omega
end Go.Proofs.YtpjillclladjaaaDoor.Pln
