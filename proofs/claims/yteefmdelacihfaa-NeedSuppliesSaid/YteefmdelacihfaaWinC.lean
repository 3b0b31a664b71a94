
/- What is wrong first with windows, as the program tells it, and the document. Condition: the variables hold what the program lays there; at most 1,000 windows, and 2 to the power 40 ids. -/

import Derived.Test.YteefmdelacihfaaWinA

import Derived.Test.YteefmdelacihfaaWinV

import Derived.Test.YteefmdelacihfaaFltB

import Derived.Test.YteefmdelacihfaaFltQ

import Derived.Test.YteefmdelacihfaaFltK

import Derived.Test.YteefmdelacihfaaRdrA

namespace Go.Proofs.Yteefmdelacihfaa.Win

open Go.RowKit Go.PlainAid Go.Proofs.Yteefmdelacihfaa.Oct Go.Proofs.Yteefmdelacihfaa.Flt Go.Proofs.Yteefmdelacihfaa.Rdr Go.Proofs.Yteefmdelacihfaa.Args

open Go.Proofs.Yteefmdelacihfaa.Act (A3 actL flatA ActsAt I64 Wide)

set_option linter.unusedVariables false

set_option linter.unusedSimpArgs false

def okW (fr : Int) (x : A3) : Bool := if x.a < 1 then false else if x.p < 0 then false else if fr < x.p then false else decide (x.a ≤ fr - x.p)
def memB (ids : List Int) (v : Int) : Bool := decide (v ∈ ids)
theorem search_any (B : Nat) (V : Value) (ids : List Int) (v : Int) (W : World) (h : OwnsZ B (sortZ ids) V W) (hl : ids.length ≤ 1099511627776) :
    Calls Try.prog 41 #[V, .int .i64 v] W fun e w' => ∃ i : Int, e = .returned (.tuple #[.int .i64 i, .bool (memB ids v)]) ∧ ∃ n, w' = W.drewN n := by
  have hm : (sortZ ids).contains v = memB ids v := by
    unfold memB
    rw [List.contains_eq_mem]
    simp [sortZ_mem]
  rcases h.1.2 with ⟨rfl, hz⟩ | ⟨g, cap, cur, rfl, hb, hg, r1, r2, r3, r4⟩
  · refine (Try.slices_BinarySearch_int_empty none 0 v W).mono ?_
    rintro e w' ⟨rfl, rfl⟩
    have : sortZ ids = [] := List.eq_nil_of_length_eq_zero hz
    rw [this] at hm
    refine ⟨0, ?_, 0, rfl⟩
    rw [← hm]; rfl
  · have hown := h.1
    have hc : ∀ j, j < (sortZ ids).length → W.cell? ⟨g, 0 + j, none⟩ = some (.int .i64 ((sortZ ids).getD j 0)) := fun j hj => by
      rw [Nat.zero_add, hown.cellAt j (by omega)]
      simp [List.getD, List.getElem?_eq_getElem hj]
    refine (Try.slices_BinarySearch_int g 0 (sortZ ids).length cap (sortZ ids) v W (Nat.le_refl _) (by rw [sortZ_len]; omega) hc (by rw [List.take_length]; exact sortZ_rises ids)).mono ?_
    rintro e w' ⟨rfl, q, rfl⟩
    rw [List.take_length, hm]
    exact ⟨_, rfl, q, rfl⟩
def bad1W (ids : List Int) (fr : Int) (ah x : A3) : Nat := if memB ids x.s = false then 10 else if okW fr x = false then 11 else if x.p < ah.p then 9 else if x.p < ah.p + ah.a then 12 else 0
/-- What may stand ahead of a window: a right one, or none. -/
def Ahead (ah : A3) : Prop := 0 ≤ ah.p ∧ 0 ≤ ah.a ∧ ah.p + ah.a ≤ 9223372036854775807
end Go.Proofs.Yteefmdelacihfaa.Win
