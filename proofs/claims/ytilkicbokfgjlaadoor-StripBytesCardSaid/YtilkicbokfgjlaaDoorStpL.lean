
/- The chapter's example of strips. Condition: none. -/

import Derived.Test.YtilkicbokfgjlaaDoorStpK

namespace Go.Proofs.YtilkicbokfgjlaaDoor.Stp

open Go.RowKit Go.PlainAid Go.Proofs.YtilkicbokfgjlaaDoor.Cel

set_option linter.unusedVariables false

set_option linter.unusedSimpArgs false

def exL : List Int := [1, 1, -1]
def exR : List RW := [⟨1, 2⟩, ⟨-1, 1⟩]
theorem ex_of : ofX exL = exR := by rfl
theorem ex_cells {w : World} {B c : Nat} {A : Option Addr} (h : w.ownsRow B 50 2 (.slice A 2 c) 2 (flatR exR)) : ∃ q, A = some ⟨q, 0, none⟩ ∧ w.cell? ⟨q, 0, none⟩ = some (.int .i64 1) ∧ w.cell? ⟨q, 1, none⟩ = some (.int .i64 2) ∧ w.cell? ⟨q, 2, none⟩ = some (.int .i64 (-1)) ∧ w.cell? ⟨q, 3, none⟩ = some (.int .i64 1) := by
  obtain ⟨ax, rfl, -, -⟩ := own_rat h 0 ⟨1, 2⟩ rfl
  obtain ⟨hax, -, -⟩ := own_at h ax rfl
  obtain ⟨q, hq⟩ : ∃ q, ax.block = q := ⟨_, rfl⟩
  rw [hq] at hax
  subst hax
  exact ⟨q, rfl, (h.cellAt 0 (by omega)).trans rfl, (h.cellAt 1 (by omega)).trans rfl, (h.cellAt 2 (by omega)).trans rfl, (h.cellAt 3 (by omega)).trans rfl⟩
set_option maxRecDepth 4000 in
set_option maxHeartbeats 1600000 in
theorem awake27 (w : World) : Calls Tryd.prog 5 #[] w fun e w' => e = .returned (.bool true) ∧ Below w.heap.size w w' := by
  have hb0 := below_al w (.cells #[.int .i64 1, .int .i64 1, .int .i64 (-1)] 3)
  have hx0 := heap_alloc_new w (.cells #[.int .i64 1, .int .i64 1, .int .i64 (-1)] 3)
  obtain ⟨W0, hW0⟩ : ∃ W, w.alloc (.cells #[.int .i64 1, .int .i64 1, .int .i64 (-1)] 3) = W := ⟨_, rfl⟩
  rw [hW0] at hb0 hx0
  have hna : NAt W0 (some ⟨w.heap.size, 0, none⟩) exL := by
    intro i x hx
    refine ⟨_, rfl, ?_⟩
    have e : (Addr.mk w.heap.size 0 none).add i = ⟨w.heap.size, i, none⟩ := by cases i <;> simp [Addr.add]
    rw [e, cell_of_row _ _ _ _ _ _ hx0]
    rcases i with _ | _ | _ | i
    · simp [exL] at hx; subst hx; rfl
    · simp [exL] at hx; subst hx; rfl
    · simp [exL] at hx; subst hx; rfl
    · simp [exL] at hx
  have hof := of_any (some ⟨w.heap.size, 0, none⟩) 3 3 exL W0 hna rfl (by omega)
  have hok := of_ok exL
  unfold OfPost at hof
  rw [ex_of] at hof hok
  have HOF := Lib.hid hof
  have HOK := Lib.hid hok
  have HB := Lib.hid hb0
  have HW := Lib.hid hW0
  have q1 : ∀ wx : World, (Op.equalIn 10000 50 (.agg #[.int .i64 1, .int .i64 2]) (.agg #[.int .i64 1, .int .i64 2])).run Tryd.prog wx = .ok true wx := fun wx => by rw [eq_row2]; rfl
  have q2 : ∀ wx : World, (Op.equalIn 10000 50 (.agg #[.int .i64 (-1), .int .i64 1]) (.agg #[.int .i64 (-1), .int .i64 1])).run Tryd.prog wx = .ok true wx := fun wx => by rw [eq_row2]; rfl
  clear hof hok hb0 hW0 hna hx0
  go_enter Tryd.func5, Tryd.ntmps5
  go_wp2_with (go_at_call 6; rw [HW.out]; refine HOF.out.mono ?_; rintro e w1 ⟨rfl, hs, hz, hb⟩; have HR := Lib.hid (rows_any hs HOK.out); have HB1 := Lib.hid (HB.out.trans (hb.mono HB.out.size)); clear hs hz hb)
  go_wp2_with (go_at_call 16; refine HR.out.mono ?_; rintro e w2 ⟨A, c, rfl, how, hb2⟩; have HB2 := Lib.hid (HB1.out.trans (hb2.mono HB1.out.size)); obtain ⟨q, rfl, c0, c1, c2, c3⟩ := ex_cells how; have hl : exR.length = 2 := rfl; rw [hl]; clear how hb2 hl)
  go_ret
  exact ⟨rfl, HB2.out⟩
end Go.Proofs.YtilkicbokfgjlaaDoor.Stp
