
/- Windows: their order, as the program tells it; rows of windows. No condition. -/

import Derived.Test.YtplllmfbpliciaaDoorWinM

import Derived.Test.YtplllmfbpliciaaDoorShelf

import Derived.Test.YtplllmfbpliciaaDoorActR

import Derived.LoopN

import Derived.BigQuiet

import Derived.BigRegion

import Derived.Deep.RegionHeld3

namespace Go.Proofs.YtplllmfbpliciaaDoor.Win

open Go.RowKit Go.PlainAid Go.Proofs.YtplllmfbpliciaaDoor.Oct Go.Proofs.YtplllmfbpliciaaDoor.Flt Go.Proofs.YtplllmfbpliciaaDoor.Rdr Go.Proofs.YtplllmfbpliciaaDoor.Args

open Go.Proofs.YtplllmfbpliciaaDoor.Act (A3 actL flatA ActsAt I64 Wide)

open Go.Sort (grow)

set_option linter.unusedVariables false

set_option linter.unusedSimpArgs false

theorem or3_any (x y z : Int) (g : Nat) (w : World) (h : w.heap[g]? = some (.cells #[.int .i64 x, .int .i64 y, .int .i64 z] 3 (0, 0))) :
    Calls Tryd.prog 23 #[.slice (some ⟨g, 0, none⟩) 3 3] w fun e w' => e = .returned (.int .i64 (or3 x y z)) ∧ w = w' := by
  have hc0 : w.cell? ⟨g, 0, none⟩ = some (.int .i64 x) := by rw [cell_of_row w _ _ _ _ _ h]; rfl
  have hc1 : w.cell? ⟨g, 1, none⟩ = some (.int .i64 y) := by rw [cell_of_row w _ _ _ _ _ h]; rfl
  have hc2 : w.cell? ⟨g, 2, none⟩ = some (.int .i64 z) := by rw [cell_of_row w _ _ _ _ _ h]; rfl
  clear h
  unfold or3
  cases hx : (x != 0) with
  | true =>
    rw [if_neg (by simpa using hx)]
    go_enter Tryd.func23, Tryd.ntmps23
    go_wp2
    refine wp_loop_rounds 1 ?_
    rw [rounds_succ]
    go_wp2
    go_ret
    exact ⟨rfl, rfl⟩
  | false =>
    obtain rfl : x = 0 := by simpa using hx
    rw [if_pos rfl]
    cases hy : (y != 0) with
    | true =>
      rw [if_neg (by simpa using hy)]
      go_enter Tryd.func23, Tryd.ntmps23
      go_wp2
      refine wp_loop_rounds 2 ?_
      rw [rounds_succ]
      go_wp2
      rw [rounds_succ]
      go_wp2
      go_ret
      exact ⟨rfl, rfl⟩
    | false =>
      obtain rfl : y = 0 := by simpa using hy
      rw [if_pos rfl]
      cases hz : (z != 0) with
      | true =>
        go_enter Tryd.func23, Tryd.ntmps23
        go_wp2
        refine wp_loop_rounds 3 ?_
        rw [rounds_succ]
        go_wp2
        rw [rounds_succ]
        go_wp2
        rw [rounds_succ]
        go_wp2
        go_ret
        exact ⟨rfl, rfl⟩
      | false =>
        obtain rfl : z = 0 := by simpa using hz
        go_enter Tryd.func23, Tryd.ntmps23
        go_wp2
        refine wp_loop_rounds 4 ?_
        rw [rounds_succ]
        go_wp2
        rw [rounds_succ]
        go_wp2
        rw [rounds_succ]
        go_wp2
        rw [rounds_succ]
        go_wp2
        go_ret
        exact ⟨rfl, rfl⟩
def winC (x : A3) : Array Value := #[.int .i64 x.s, .int .i64 x.p, .int .i64 x.a]
theorem kept6 {W w2 : World} {a b c d e f : Addr} {va vb vc vd ve vf : Value} (h : W.cell? a = some va ∧ W.cell? b = some vb ∧ W.cell? c = some vc ∧ W.cell? d = some vd ∧ W.cell? e = some ve ∧ W.cell? f = some vf) (hb : Below W.heap.size W w2) : w2.cell? a = some va ∧ w2.cell? b = some vb ∧ w2.cell? c = some vc ∧ w2.cell? d = some vd ∧ w2.cell? e = some ve ∧ w2.cell? f = some vf :=
  ⟨(hb.cell (Go.block_lt_of_cell h.1)).trans h.1, (hb.cell (Go.block_lt_of_cell h.2.1)).trans h.2.1, (hb.cell (Go.block_lt_of_cell h.2.2.1)).trans h.2.2.1, (hb.cell (Go.block_lt_of_cell h.2.2.2.1)).trans h.2.2.2.1, (hb.cell (Go.block_lt_of_cell h.2.2.2.2.1)).trans h.2.2.2.2.1, (hb.cell (Go.block_lt_of_cell h.2.2.2.2.2)).trans h.2.2.2.2.2⟩
set_option maxRecDepth 8000 in
set_option maxHeartbeats 1600000 in
theorem compareW_any (x y : A3) (w : World) :
    Calls Tryd.prog 22 #[.agg (winC x), .agg (winC y)] w fun e w' => e = .returned (.int .i64 (cmpW x y)) ∧ ∃ q os, w' = grow (w.drewN q) os := by
  have H1 := Lib.hid (fun w => Tryd.cmp_Compare_int x.p y.p w)
  have H2 := Lib.hid (fun w => Tryd.cmp_Compare_int x.a y.a w)
  have H3 := Lib.hid (fun w => Tryd.cmp_Compare_int x.s y.s w)
  unfold cmpW winC
  obtain ⟨a, ha⟩ : ∃ a, Lib.compareInt x.p y.p = a := ⟨_, rfl⟩
  obtain ⟨b, hb⟩ : ∃ a, Lib.compareInt x.a y.a = a := ⟨_, rfl⟩
  obtain ⟨c, hc⟩ : ∃ a, Lib.compareInt x.s y.s = a := ⟨_, rfl⟩
  rw [ha] at H1
  rw [hb] at H2
  rw [hc] at H3
  rw [ha, hb, hc]
  have HO := Lib.hid (fun w g h => or3_any a b c g w h)
  obtain ⟨o, ho⟩ : ∃ o, or3 a b c = o := ⟨_, rfl⟩
  rw [ho] at HO
  rw [ho]
  obtain ⟨s1, p1, a1⟩ := x
  obtain ⟨s2, p2, a2⟩ := y
  dsimp only at H1 H2 H3 ⊢
  clear ha hb hc ho
  go_enter Tryd.func22, Tryd.ntmps22
  go_wp2_with fail
  obtain ⟨W, hW⟩ : ∃ W, (w.alloc (.cells #[.int .i64 s1, .int .i64 p1, .int .i64 a1] 39)).alloc (.cells #[.int .i64 s2, .int .i64 p2, .int .i64 a2] 39) = W := ⟨_, rfl⟩
  have HWE := Lib.hid hW
  have hra : W.heap[w.heap.size]? = some (.cells #[.int .i64 s1, .int .i64 p1, .int .i64 a1] 39 (0, 0)) := by rw [← hW]; exact (heap_alloc_old _ _ (by simp)).trans (heap_alloc_new _ _)
  have hrb : W.heap[w.heap.size + 1]? = some (.cells #[.int .i64 s2, .int .i64 p2, .int .i64 a2] 39 (0, 0)) := by rw [← hW]; have h := heap_alloc_new (w.alloc (.cells #[.int .i64 s1, .int .i64 p1, .int .i64 a1] 39)) (.cells #[.int .i64 s2, .int .i64 p2, .int .i64 a2] 39); rwa [World.size_alloc] at h
  rw [hW]
  have HCE : Hid (W.cell? ⟨w.heap.size, 0, none⟩ = some (.int .i64 s1) ∧ W.cell? ⟨w.heap.size, 1, none⟩ = some (.int .i64 p1) ∧ W.cell? ⟨w.heap.size, 2, none⟩ = some (.int .i64 a1) ∧ W.cell? ⟨w.heap.size + 1, 0, none⟩ = some (.int .i64 s2) ∧ W.cell? ⟨w.heap.size + 1, 1, none⟩ = some (.int .i64 p2) ∧ W.cell? ⟨w.heap.size + 1, 2, none⟩ = some (.int .i64 a2)) := by
    refine ⟨?_, ?_, ?_, ?_, ?_, ?_⟩
    all_goals first
      | (rw [cell_of_row W _ _ _ _ _ hra]; rfl)
      | (rw [cell_of_row W _ _ _ _ _ hrb]; rfl)
  obtain ⟨q0, q1, q2, q3, q4, q5⟩ := HCE.out
  clear hW hra hrb
  go_region_held3 (fun wx => wx.cell? ⟨w.heap.size, 0, none⟩ = some (.int .i64 s1) ∧ wx.cell? ⟨w.heap.size, 1, none⟩ = some (.int .i64 p1) ∧ wx.cell? ⟨w.heap.size, 2, none⟩ = some (.int .i64 a1) ∧ wx.cell? ⟨w.heap.size + 1, 0, none⟩ = some (.int .i64 s2) ∧ wx.cell? ⟨w.heap.size + 1, 1, none⟩ = some (.int .i64 p2) ∧ wx.cell? ⟨w.heap.size + 1, 2, none⟩ = some (.int .i64 a2)) (first | (go_keep; done) | exact HCE.out | (refine ⟨?_, ?_, ?_, ?_, ?_, ?_⟩ <;> assumption))
    (first
      | (go_at_call 24; (with_reducible first | (refine (H1.out _).mono ?_) | (refine (H2.out _).mono ?_) | (refine (H3.out _).mono ?_)); rintro e w' ⟨rfl, rfl⟩)
      | (go_at_call 23; refine (HO.out ((W.alloc (.cells #[.int .i64 a, .int .i64 b, .int .i64 c] 3)).drew) W.heap.size (by exact heap_alloc_new W _)).mono ?_; rintro e w' ⟨rfl, rfl⟩))
  go_wp2
  go_ret
  refine ⟨rfl, 1, #[.cells #[.int .i64 s1, .int .i64 p1, .int .i64 a1] 39, .cells #[.int .i64 s2, .int .i64 p2, .int .i64 a2] 39, .cells #[.int .i64 a, .int .i64 b, .int .i64 c] 3], ?_⟩
  rw [← HWE.out]
  rw [Go.Sort.alloc_eq_grow, Go.Sort.alloc_eq_grow, Go.Sort.alloc_eq_grow, Go.Sort.grow_grow, Go.Sort.grow_grow, Go.Sort.drew_grow]
  rfl
end Go.Proofs.YtplllmfbpliciaaDoor.Win
