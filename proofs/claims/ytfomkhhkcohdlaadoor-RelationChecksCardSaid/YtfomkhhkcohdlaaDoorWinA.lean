
/- Windows: their order, as the program tells it; rows of windows. No condition. -/

import Derived.Test.YtfomkhhkcohdlaaDoorWinM

import Derived.Test.YtfomkhhkcohdlaaDoorShelf

import Derived.Test.YtfomkhhkcohdlaaDoorActR

import Derived.LoopN

import Derived.BigQuiet

import Derived.BigRegion

import Derived.Deep.RegionHeld3

namespace Go.Proofs.YtfomkhhkcohdlaaDoor.Win

open Go.RowKit Go.PlainAid Go.Proofs.YtfomkhhkcohdlaaDoor.Oct Go.Proofs.YtfomkhhkcohdlaaDoor.Flt Go.Proofs.YtfomkhhkcohdlaaDoor.Rdr Go.Proofs.YtfomkhhkcohdlaaDoor.Args

open Go.Proofs.YtfomkhhkcohdlaaDoor.Act (A3 actL flatA ActsAt I64 Wide)

open Go.Sort (grow)

set_option linter.unusedVariables false

set_option linter.unusedSimpArgs false

theorem or3_any (x y z : Int) (g : Nat) (w : World) (h : w.heap[g]? = some (.cells #[.int .i64 x, .int .i64 y, .int .i64 z] 3 (0, 0))) :
    Calls Tryd.prog 39 #[.slice (some ⟨g, 0, none⟩) 3 3] w fun e w' => e = .returned (.int .i64 (or3 x y z)) ∧ w = w' := by
  have hc0 : w.cell? ⟨g, 0, none⟩ = some (.int .i64 x) := by rw [cell_of_row w _ _ _ _ _ h]; rfl
  have hc1 : w.cell? ⟨g, 1, none⟩ = some (.int .i64 y) := by rw [cell_of_row w _ _ _ _ _ h]; rfl
  have hc2 : w.cell? ⟨g, 2, none⟩ = some (.int .i64 z) := by rw [cell_of_row w _ _ _ _ _ h]; rfl
  clear h
  unfold or3
  cases hx : (x != 0) with
  | true =>
    rw [if_neg (by simpa using hx)]
    go_enter Tryd.func39, Tryd.ntmps39
    go_wp2
    refine wp_loop_rounds 1 ?_
    rw [rounds_succ]
    go_wp2
    go_ret
    exact ⟨rfl, rfl⟩
  | false =>
    obtain rfl : x = 0 := by simpa using hx
    rw [if_pos rfl]
    cases hy : (y != 0) with
    | true =>
      rw [if_neg (by simpa using hy)]
      go_enter Tryd.func39, Tryd.ntmps39
      go_wp2
      refine wp_loop_rounds 2 ?_
      rw [rounds_succ]
      go_wp2
      rw [rounds_succ]
      go_wp2
      go_ret
      exact ⟨rfl, rfl⟩
    | false =>
      obtain rfl : y = 0 := by simpa using hy
      rw [if_pos rfl]
      cases hz : (z != 0) with
      | true =>
        go_enter Tryd.func39, Tryd.ntmps39
        go_wp2
        refine wp_loop_rounds 3 ?_
        rw [rounds_succ]
        go_wp2
        rw [rounds_succ]
        go_wp2
        rw [rounds_succ]
        go_wp2
        go_ret
        exact ⟨rfl, rfl⟩
      | false =>
        obtain rfl : z = 0 := by simpa using hz
        go_enter Tryd.func39, Tryd.ntmps39
        go_wp2
        refine wp_loop_rounds 4 ?_
        rw [rounds_succ]
        go_wp2
        rw [rounds_succ]
        go_wp2
        rw [rounds_succ]
        go_wp2
        rw [rounds_succ]
        go_wp2
        go_ret
        exact ⟨rfl, rfl⟩
def winC (x : A3) : Array Value := #[.int .i64 x.s, .int .i64 x.p, .int .i64 x.a]
theorem kept6 {W w2 : World} {a b c d e f : Addr} {va vb vc vd ve vf : Value} (h : W.cell? a = some va ∧ W.cell? b = some vb ∧ W.cell? c = some vc ∧ W.cell? d = some vd ∧ W.cell? e = some ve ∧ W.cell? f = some vf) (hb : Below W.heap.size W w2) : w2.cell? a = some va ∧ w2.cell? b = some vb ∧ w2.cell? c = some vc ∧ w2.cell? d = some vd ∧ w2.cell? e = some ve ∧ w2.cell? f = some vf :=
  ⟨(hb.cell (Go.block_lt_of_cell h.1)).trans h.1, (hb.cell (Go.block_lt_of_cell h.2.1)).trans h.2.1, (hb.cell (Go.block_lt_of_cell h.2.2.1)).trans h.2.2.1, (hb.cell (Go.block_lt_of_cell h.2.2.2.1)).trans h.2.2.2.1, (hb.cell (Go.block_lt_of_cell h.2.2.2.2.1)).trans h.2.2.2.2.1, (hb.cell (Go.block_lt_of_cell h.2.2.2.2.2)).trans h.2.2.2.2.2⟩
end Go.Proofs.YtfomkhhkcohdlaaDoor.Win
