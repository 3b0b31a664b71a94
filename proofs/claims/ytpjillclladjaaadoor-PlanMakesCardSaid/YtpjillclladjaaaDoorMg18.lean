/- Plans in plain words: the windows of a word, the changes of owner, the longest row without an owner. It says nothing of the program. No condition. -/
import Derived.Test.YtpjillclladjaaaDoorMg09
import Derived.Test.YtpjillclladjaaaDoorMg17
namespace Go.Proofs.YtpjillclladjaaaDoor.Pln

open Go.Proofs.YtpjillclladjaaaDoor.Act (A3 I64)

open Go.Proofs.YtpjillclladjaaaDoor.Nee

set_option linter.unusedVariables false

set_option linter.unusedSimpArgs false

/-- The number at a place; 0 behind the end. -/
def vz (l : List Int) (i : Nat) : Int := l[i]?.getD 0
theorem vz_at {l : List Int} {i : Nat} (h : i < l.length) : l[i]? = some (vz l i) := by
  unfold vz
  rw [List.getElem?_eq_getElem h]; rfl
theorem vz_of {l : List Int} {i : Nat} {v : Int} (h : l[i]? = some v) : vz l i = v := by
  unfold vz
  rw [h]; rfl
/-- Does the next place hold the same? -/
def goesB (l : List Int) (i : Nat) : Bool := decide (i + 1 < l.length) && (vz l (i + 1) == vz l i)
/-- Windows that are closed behind so many places, and where the open one begins. -/
def wst (l : List Int) : Nat → List A3 × Nat
  | 0 => ([], 0)
  | i + 1 => if goesB l i then wst l i else ((if vz l i = -1 then (wst l i).1 else (wst l i).1 ++ [⟨vz l i, ((wst l i).2 : Int), ((i + 1 : Nat) : Int) - ((wst l i).2 : Int)⟩]), i + 1)
def winsL (l : List Int) : List A3 := (wst l l.length).1
theorem wst_le (l : List Int) : ∀ i, (wst l i).2 ≤ i ∧ (wst l i).1.length ≤ i
  | 0 => ⟨Nat.le_refl _, Nat.le_refl _⟩
  | i + 1 => by
    have ih := wst_le l i
    unfold wst
    split
    · exact ⟨by omega, by omega⟩
    · refine ⟨Nat.le_refl _, ?_⟩
      dsimp only
      split
      · omega
      · rw [List.length_append, List.length_singleton]; omega
theorem wst_stay (l : List Int) (t : Nat) : ∀ m, (∀ j, j < m → goesB l (t + j) = true) → wst l (t + m) = wst l t
  | 0, _ => rfl
  | m + 1, h => by
    rw [show t + (m + 1) = (t + m) + 1 by omega, wst, if_pos (h m (by omega))]
    exact wst_stay l t m fun j hj => h j (by omega)
theorem vz_run (l : List Int) (t : Nat) : ∀ m, (∀ j, j < m → goesB l (t + j) = true) → vz l (t + m) = vz l t
  | 0, _ => rfl
  | m + 1, h => by
    have h1 := h m (by omega)
    have h2 := vz_run l t m fun j hj => h j (by omega)
    unfold goesB at h1
    simp at h1
    rw [show t + (m + 1) = t + m + 1 by omega, h1.2, h2]
/-- A whole row of one owner. -/
theorem wst_run (l : List Int) (t n : Nat) (h1 : 1 ≤ n) (hg : ∀ j, j + 1 < n → goesB l (t + j) = true) (he : goesB l (t + (n - 1)) = false) (h0 : (wst l t).2 = t) :
    wst l (t + n) = ((if vz l t = -1 then (wst l t).1 else (wst l t).1 ++ [⟨vz l t, (t : Int), (n : Int)⟩]), t + n) := by
  obtain ⟨m, rfl⟩ : ∃ m, n = m + 1 := ⟨n - 1, by omega⟩
  have hs := wst_stay l t m fun j hj => hg j (by omega)
  have hv := vz_run l t m fun j hj => hg j (by omega)
  rw [show t + (m + 1) = (t + m) + 1 by omega, wst, if_neg (by rw [show m + 1 - 1 = m by omega] at he; rw [he]; simp), hs, hv, h0]
  have e : ((t + m + 1 : Nat) : Int) - (t : Int) = ((m + 1 : Nat) : Int) := by omega
  rw [e]
/-- How often the owner isn't that of the place ahead, going round. -/
def prevI (l : List Int) (i : Nat) : Nat := (i + l.length - 1) % l.length
theorem prev_lt (l : List Int) (i : Nat) (h : i < l.length) : prevI l i < l.length := Nat.mod_lt _ (by omega)
def swc (l : List Int) : Nat → Nat
  | 0 => 0
  | i + 1 => swc l i + (if vz l i = vz l (prevI l i) then 0 else 1)
theorem swc_le (l : List Int) : ∀ i, swc l i ≤ i
  | 0 => Nat.le_refl _
  | i + 1 => by
    have := swc_le l i
    unfold swc
    split <;> omega
theorem best_end (z : Int) : ∀ r : List Int, bestZ z (r ++ [z]) = bestZ z r
  | [] => by simp [bestZ, leadZ]
  | v :: r => by
    rw [List.cons_append, bestZ, bestZ, best_end z r]
    congr 1
    have := lead_app z [] (v :: r)
    rw [List.cons_append] at this
    exact this
/-- Where the way round begins. -/
def nextI (l : List Int) (f : Nat) : Nat := (f + 1) % l.length
theorem spread_is (z : Int) (ws : List Int) (f : Nat) (h : ws[f]? = some z) : bestD z ws ws.length = bestZ z (rotZ ws (nextI ws f)) := by
  obtain ⟨hf, e⟩ := List.getElem?_eq_some_iff.1 h
  rw [best_some z ws f h]
  have hr : rotZ ws f = z :: (ws.drop (f + 1) ++ ws.take f) := by
    unfold rotZ
    rw [List.drop_eq_getElem_cons hf, e]; rfl
  have hn : rotZ ws (nextI ws f) = (ws.drop (f + 1) ++ ws.take f) ++ [z] := by
    unfold nextI rotZ
    rcases Nat.lt_or_ge (f + 1) ws.length with h1 | h1
    · rw [Nat.mod_eq_of_lt h1, List.take_add_one, h, List.append_assoc]; rfl
    · have e1 : f + 1 = ws.length := by omega
      rw [e1, Nat.mod_self, List.drop_zero, List.take_zero, List.append_nil, List.drop_length, List.nil_append]
      have : ws = ws.take f ++ ws.drop f := (List.take_append_drop _ _).symm
      have e2 : ws.drop f = [z] := by
        rw [List.drop_eq_getElem_cons hf, e, e1, List.drop_length]
      rw [← e2]; exact this
  rw [hr, hn, best_end, bestZ, leadZ, if_pos rfl]
  omega
end Go.Proofs.YtpjillclladjaaaDoor.Pln
