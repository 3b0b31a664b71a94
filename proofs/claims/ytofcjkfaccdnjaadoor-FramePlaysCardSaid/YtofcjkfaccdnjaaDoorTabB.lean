
/- Tables: the run that a tick is in (sort.Search), whose a tick is, where another one's begin, the runs. Condition: 1 to 1,048,576 ticks. -/

import Derived.Test.YtofcjkfaccdnjaaDoorTabA

import Derived.Test.YtofcjkfaccdnjaaDoorShelfF

import Derived.Deep.RegionHeld3

import Derived.BigQuiet

namespace Go.Proofs.YtofcjkfaccdnjaaDoor.Tab

open Go.RowKit Go.PlainAid Go.Proofs.YtofcjkfaccdnjaaDoor.Oct Go.Proofs.YtofcjkfaccdnjaaDoor.Flt Go.Proofs.YtofcjkfaccdnjaaDoor.Rdr Go.Proofs.YtofcjkfaccdnjaaDoor.Args Go.Proofs.YtofcjkfaccdnjaaDoor.Win

open Go.Proofs.YtofcjkfaccdnjaaDoor.Act (A3 actL flatA ActsAt I64 Wide)

set_option linter.unusedVariables false

set_option linter.unusedSimpArgs false

theorem below_grow (w : World) (os : Array Obj) : Below w.heap.size w (Go.Sort.grow w os) :=
  ⟨rfl, rfl, rfl, by simp [Go.Sort.grow], fun k hk => by
    show (w.heap ++ os)[k]? = _
    rw [Array.getElem?_append_left hk]⟩
theorem below_dg (w : World) (m : Nat) (os : Array Obj) : Below w.heap.size w (Go.Sort.grow (w.drewN m) os) := by
  have h1 : Below w.heap.size w (w.drewN m) := ⟨rfl, rfl, rfl, Nat.le_refl _, fun _ _ => rfl⟩
  exact h1.trans (below_grow (w.drewN m) os)
/-- The facts that a table keeps: its runs are those of its ticks. -/
structure Runs (f : Int → Int) (L : List A3) (fr : Nat) : Prop where
  gr : GR f L (fr : Int)
  len : L.length ≤ fr
  fr1 : 1 ≤ fr
  fr2 : fr ≤ 1048576
theorem Runs.in_ {f : Int → Int} {L : List A3} {fr : Nat} (h : Runs f L fr) {i : Nat} {x : A3} (hx : L[i]? = some x) : 0 ≤ x.p ∧ 1 ≤ x.a ∧ x.p + x.a ≤ fr := by
  obtain ⟨p1, p2, _⟩ := h.gr.at_ i x hx
  have hil := (List.getElem?_eq_some_iff.1 hx).1
  have e : sumA (L.take (i + 1)) = sumA (L.take i) + x.a := by rw [List.take_add_one, hx]; exact sumA_snoc _ _
  have h1 := sum_mono h.gr L.length (i + 1) (by omega) (Nat.le_refl _)
  have h0 := sum_mono h.gr i 0 (Nat.zero_le _) (by omega)
  rw [List.take_length, h.gr.sum] at h1
  simp only [List.take_zero, sumA] at h0
  omega
def pB (L : List A3) (t : Int) (i : Nat) : Bool := match L[i]? with
  | some x => decide (t < x.p + x.a)
  | none => true
/-- The one run that a tick is in. -/
structure AtRun (L : List A3) (t : Int) (k : Nat) (x : A3) : Prop where
  get : L[k]? = some x
  lo : x.p ≤ t
  hi : t < x.p + x.a
  below : ∀ i y, i < k → L[i]? = some y → y.p + y.a ≤ t
  above : ∀ i y, k ≤ i → L[i]? = some y → t < y.p + y.a
theorem AtRun.p_is {L : List A3} {t : Int} {k : Nat} {x : A3} (h : AtRun L t k x) (i : Nat) (hi : i < L.length) : pB L t i = !decide (i < k) := by
  have hx : L[i]? = some L[i] := List.getElem?_eq_getElem hi
  unfold pB
  rw [hx]
  dsimp only
  rcases Nat.lt_or_ge i k with h1 | h1
  · rw [decide_eq_true h1, decide_eq_false (by have := h.below i _ h1 hx; omega)]; rfl
  · rw [decide_eq_false (show ¬ i < k by omega), decide_eq_true (h.above i _ h1 hx)]; rfl
theorem AtRun.count {L : List A3} {t : Int} {k : Nat} {x : A3} (h : AtRun L t k x) : (List.range L.length).countP (fun i => !pB L t i) = k := by
  have hk := (List.getElem?_eq_some_iff.1 h.get).1
  have e : (List.range L.length).countP (fun i => !pB L t i) = (List.range L.length).countP (fun i => decide (i < k)) := by
    apply List.countP_congr
    intro i hi
    rw [h.p_is i (List.mem_range.1 hi)]
    simp
  rw [e, count_below]
  omega
end Go.Proofs.YtofcjkfaccdnjaaDoor.Tab
