
/- Windows: whether two have a tick in common, as the program tells it. Condition: their numbers are 0 to 300. -/

import Derived.Test.YthpncnbcinfllaaDoorWinA

import Derived.Test.YthpncnbcinfllaaDoorRdrE

namespace Go.Proofs.YthpncnbcinfllaaDoor.Win

open Go.RowKit Go.PlainAid Go.Proofs.YthpncnbcinfllaaDoor.Oct Go.Proofs.YthpncnbcinfllaaDoor.Flt Go.Proofs.YthpncnbcinfllaaDoor.Rdr Go.Proofs.YthpncnbcinfllaaDoor.Args

open Go.Proofs.YthpncnbcinfllaaDoor.Act (A3 actL flatA ActsAt I64 Wide)

set_option linter.unusedVariables false

set_option linter.unusedSimpArgs false

def smallB (x : A3) : Bool := decide (0 ≤ x.p) && decide (x.p ≤ 300) && decide (0 ≤ x.a) && decide (x.a ≤ 300)
theorem small_of {x : A3} (h : smallB x = true) : 0 ≤ x.p ∧ x.p ≤ 300 ∧ 0 ≤ x.a ∧ x.a ≤ 300 := by unfold smallB at h; simp at h; omega
set_option maxRecDepth 4000 in
theorem touch_any (x y : A3) (w : World) (hx : smallB x = true) (hy : smallB y = true) :
    Calls Tryd.prog 19 #[.agg (winC x), .agg (winC y)] w fun e w' => e = .returned (.bool (touchB x y)) ∧ Below w.heap.size w w' := by
  have HB := Lib.hid (fun o1 o2 => two_below w o1 o2)
  have h1 := small_of hx
  have h2 := small_of hy
  obtain ⟨s1, p1, a1⟩ := x
  obtain ⟨s2, p2, a2⟩ := y
  unfold winC touchB
  dsimp only at h1 h2 ⊢
  by_cases c1 : a1 < 1
  · rw [if_pos (.inl c1)]
    clear h1 h2 hx hy
    go_enter Tryd.func19, Tryd.ntmps19
    go_wp2
    go_ret
    exact ⟨rfl, HB.out _ _⟩
  · by_cases c2 : a2 < 1
    · rw [if_pos (.inr c2)]
      clear h1 h2 hx hy
      go_enter Tryd.func19, Tryd.ntmps19
      go_wp2
      go_ret
      exact ⟨rfl, HB.out _ _⟩
    · rw [if_neg (by omega)]
      have hw1 : IntKind.i64.wrap (p1 + a1) = p1 + a1 := IntWalk.i64_in _ (by omega)
      have hw2 : IntKind.i64.wrap (p2 + a2) = p2 + a2 := IntWalk.i64_in _ (by omega)
      obtain ⟨r, hr⟩ : ∃ r, decide (max p1 p2 < min (p1 + a1) (p2 + a2)) = r := ⟨_, rfl⟩
      rw [hr]
      have HR := Lib.hid hr
      clear h1 h2 hx hy hr
      go_enter Tryd.func19, Tryd.ntmps19
      go_wp2
      go_ret
      exact ⟨by rw [← HR.out]; rfl, HB.out _ _⟩
end Go.Proofs.YthpncnbcinfllaaDoor.Win
