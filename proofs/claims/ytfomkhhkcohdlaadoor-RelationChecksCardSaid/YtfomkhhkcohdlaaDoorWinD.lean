
/- What is wrong first with windows, as the program tells it, and the document. Condition: the variables hold what the program lays there; at most 1,000 windows, and 2 to the power 40 ids. What package window's Check tells. Condition: the variables hold what the program lays there; at most 1,000 windows, and 2 to the power 40 ids. -/

import Derived.Test.YtfomkhhkcohdlaaDoorWinA

import Derived.Test.YtfomkhhkcohdlaaDoorWinV

import Derived.Test.YtfomkhhkcohdlaaDoorFltB

import Derived.Test.YtfomkhhkcohdlaaDoorFltO

import Derived.Test.YtfomkhhkcohdlaaDoorFltK

import Derived.Test.YtfomkhhkcohdlaaDoorRdrA

namespace Go.Proofs.YtfomkhhkcohdlaaDoor.Win

open Go.RowKit Go.PlainAid Go.Proofs.YtfomkhhkcohdlaaDoor.Oct Go.Proofs.YtfomkhhkcohdlaaDoor.Flt Go.Proofs.YtfomkhhkcohdlaaDoor.Rdr Go.Proofs.YtfomkhhkcohdlaaDoor.Args

open Go.Proofs.YtfomkhhkcohdlaaDoor.Act (A3 actL flatA ActsAt I64 Wide)

set_option linter.unusedVariables false

set_option linter.unusedSimpArgs false

def okW (fr : Int) (x : A3) : Bool := if x.a < 1 then false else if x.p < 0 then false else if fr < x.p then false else decide (x.a ≤ fr - x.p)
def memB (ids : List Int) (v : Int) : Bool := decide (v ∈ ids)
theorem search_any (B : Nat) (V : Value) (ids : List Int) (v : Int) (W : World) (h : OwnsZ B (sortZ ids) V W) (hl : ids.length ≤ 1099511627776) :
    Calls Tryd.prog 25 #[V, .int .i64 v] W fun e w' => ∃ i : Int, e = .returned (.tuple #[.int .i64 i, .bool (memB ids v)]) ∧ ∃ n, w' = W.drewN n := by
  have hm : (sortZ ids).contains v = memB ids v := by
    unfold memB
    rw [List.contains_eq_mem]
    simp [sortZ_mem]
  rcases h.1.2 with ⟨rfl, hz⟩ | ⟨g, cap, cur, rfl, hb, hg, r1, r2, r3, r4⟩
  · refine (Tryd.slices_BinarySearch_int_empty none 0 v W).mono ?_
    rintro e w' ⟨rfl, rfl⟩
    have : sortZ ids = [] := List.eq_nil_of_length_eq_zero hz
    rw [this] at hm
    refine ⟨0, ?_, 0, rfl⟩
    rw [← hm]; rfl
  · have hown := h.1
    have hc : ∀ j, j < (sortZ ids).length → W.cell? ⟨g, 0 + j, none⟩ = some (.int .i64 ((sortZ ids).getD j 0)) := fun j hj => by
      rw [Nat.zero_add, hown.cellAt j (by omega)]
      simp [List.getD, List.getElem?_eq_getElem hj]
    refine (Tryd.slices_BinarySearch_int g 0 (sortZ ids).length cap (sortZ ids) v W (Nat.le_refl _) (by rw [sortZ_len]; omega) hc (by rw [List.take_length]; exact sortZ_rises ids)).mono ?_
    rintro e w' ⟨rfl, q, rfl⟩
    rw [List.take_length, hm]
    exact ⟨_, rfl, q, rfl⟩
def bad1W (ids : List Int) (fr : Int) (ah x : A3) : Nat := if memB ids x.s = false then 10 else if okW fr x = false then 11 else if x.p < ah.p then 9 else if x.p < ah.p + ah.a then 12 else 0
/-- What may stand ahead of a window: a right one, or none. -/
def Ahead (ah : A3) : Prop := 0 ≤ ah.p ∧ 0 ≤ ah.a ∧ ah.p + ah.a ≤ 9223372036854775807
end Go.Proofs.YtfomkhhkcohdlaaDoor.Win

namespace Go.Proofs.YtfomkhhkcohdlaaDoor.Win

open Go.RowKit Go.PlainAid Go.Proofs.YtfomkhhkcohdlaaDoor.Oct Go.Proofs.YtfomkhhkcohdlaaDoor.Flt Go.Proofs.YtfomkhhkcohdlaaDoor.Rdr Go.Proofs.YtfomkhhkcohdlaaDoor.Args

open Go.Proofs.YtfomkhhkcohdlaaDoor.Act (A3 actL flatA ActsAt I64 Wide row_beside)

set_option linter.unusedVariables false

set_option linter.unusedSimpArgs false

def chkW (ids : List Int) (fr : Int) : A3 → Nat → List A3 → Nat × Int
  | _, _, [] => (0, 0)
  | ah, i, x :: l => if bad1W ids fr ah x = 0 then chkW ids fr x (i + 1) l else (bad1W ids fr ah x, i)
theorem bad1_le (ids : List Int) (fr : Int) (ah x : A3) : bad1W ids fr ah x ≤ 18 := by
  unfold bad1W
  split
  · omega
  · split
    · omega
    · split
      · omega
      · split <;> omega
theorem bad1_ok {ids : List Int} {fr : Int} {ah x : A3} (hf : I64 fr) (h : bad1W ids fr ah x = 0) : Ahead x := by
  unfold bad1W at h
  split at h
  · omega
  · split at h
    · omega
    · rename_i h2
      unfold okW at h2
      unfold Ahead I64 at *
      split at h2
      · simp at h2
      · split at h2
        · simp at h2
        · split at h2
          · simp at h2
          · simp at h2; omega
theorem ahead_no : Ahead ⟨0, 0, 0⟩ := ⟨Int.le_refl _, Int.le_refl _, by decide⟩
/-- What is wrong, and at which. -/
def WrongA (w : World) (x : Value) (k : Nat) (a : Int) : Prop := (k = 0 ∧ a = 0 ∧ x = .nilIface) ∨ (1 ≤ k ∧ k ≤ 18 ∧ IsFault w x [(false, a)] k)
theorem WrongA.kept {w w' : World} {x : Value} {k : Nat} {a : Int} (h : WrongA w x k a) (b : Below w.heap.size w w') : WrongA w' x k a := by
  rcases h with h | ⟨h1, h2, h3⟩
  · exact .inl h
  · exact .inr ⟨h1, h2, h3.kept b⟩
theorem just_set (w : World) (X : Nat) (cs : Array Value) : Just X w (w.setRow X cs) := ⟨rfl, rfl, rfl, (by simp), fun k _ hne => setRow_other _ _ _ _ hne⟩
theorem one_win (t : A3) : (winC t).all (·.oneCell') = true := by simp [winC, Value.oneCell']
def lastW (l : List A3) : A3 := l.getLast?.getD ⟨0, 0, 0⟩
theorem last_takeW (l : List A3) (k : Nat) (x : A3) (hx : l[k]? = some x) : lastW (l.take (k + 1)) = x := by
  have hk : k < l.length := (List.getElem?_eq_some_iff.1 hx).1
  unfold lastW
  rw [List.getLast?_eq_getElem?]
  simp only [List.length_take]
  rw [show min (k + 1) l.length - 1 = k by omega, List.getElem?_take_of_lt (by omega), hx]
  rfl
theorem IntsBelow.mono {n m : Nat} {W : World} {sv : Value} {zs : List Int} (h : IntsBelow n W sv zs) (hm : n ≤ m) : IntsBelow m W sv zs := by
  rcases h with h | ⟨y, cap, e, hb, hc⟩
  · exact .inl h
  · exact .inr ⟨y, cap, e, fun h0 => Nat.lt_of_lt_of_le (hb h0) hm, hc⟩
theorem OwnsZ.slice {B : Nat} {zs : List Int} {V : Value} {W : World} (h : OwnsZ B zs V W) : ∃ A n c, V = .slice A n c := by
  rcases h.1.2 with ⟨rfl, _⟩ | ⟨g, cap, cur, rfl, _⟩
  · exact ⟨_, _, _, rfl⟩
  · exact ⟨_, _, _, rfl⟩
end Go.Proofs.YtfomkhhkcohdlaaDoor.Win
