
/- Tables: what a table tells (its runs, the end of a run, whose a tick is, where another one's begin). Condition: at most 1,048,576 ticks. -/

import Derived.Test.YtofcjkfaccdnjaaDoorTabM

import Derived.Test.YtofcjkfaccdnjaaDoorWinAD

import Derived.Test.YtofcjkfaccdnjaaDoorShelf

import Derived.Lib.SliceRun

import Derived.OwnWalk

import Derived.BigQuiet

namespace Go.Proofs.YtofcjkfaccdnjaaDoor.Tab

open Go.RowKit Go.PlainAid Go.Proofs.YtofcjkfaccdnjaaDoor.Oct Go.Proofs.YtofcjkfaccdnjaaDoor.Flt Go.Proofs.YtofcjkfaccdnjaaDoor.Rdr Go.Proofs.YtofcjkfaccdnjaaDoor.Args Go.Proofs.YtofcjkfaccdnjaaDoor.Win

open Go.Proofs.YtofcjkfaccdnjaaDoor.Act (A3 actL flatA flatA_get flatA_len ActsAt I64 Wide)

set_option linter.unusedVariables false

set_option linter.unusedSimpArgs false

theorem infoR : (Tryd.prog.info? 98).map (fun i => (i.zero, i.size, i.bytes)) = some (some (.agg #[.int .i64 0, .int .i64 0, .int .i64 0]), 3, 24) := by kernel_rfl
theorem add_more3 (y : Addr) (n k : Nat) (h : 0 < k) : (⟨(y.add n).block, (y.add n).off + k, none⟩ : Addr) = y.add (n + k) := by
  cases n with
  | zero =>
    obtain ⟨m, rfl⟩ : ∃ m, k = m + 1 := ⟨k - 1, by omega⟩
    simp [Addr.add]
  | succ n =>
    obtain ⟨m, rfl⟩ : ∃ m, k = m + 1 := ⟨k - 1, by omega⟩
    simp [Addr.add]; omega
theorem acts_flat {w : World} {y : Addr} {l : List A3} (h : ActsAt w (some y) l) : ∀ j v, (flatA l)[j]? = some v → w.cell? (y.add j) = some v := by
  intro j v hj
  have hfl : (flatA l).length = l.length * 3 := by
    clear h hj
    induction l with
    | nil => rfl
    | cons x l ih => have e : flatA (x :: l) = actL x ++ flatA l := rfl
                     rw [e, List.length_append, ih, List.length_cons]; show 3 + _ = _; omega
  have hjl : j < l.length * 3 := by rw [← hfl]; exact (List.getElem?_eq_some_iff.1 hj).1
  obtain ⟨x, hx⟩ : ∃ x, l[j / 3]? = some x := ⟨_, List.getElem?_eq_getElem (by omega)⟩
  obtain ⟨y', hy, c1, c2, c3⟩ := h (j / 3) x hx
  obtain rfl := Option.some.inj hy
  rw [add_more3 _ _ _ (by omega)] at c2 c3
  have hg := flatA_get l (j / 3) x (j % 3) hx (by omega)
  rw [show j / 3 * 3 + j % 3 = j by omega, hj] at hg
  rcases (show j % 3 = 0 ∨ j % 3 = 1 ∨ j % 3 = 2 by omega) with h0 | h0 | h0
  · rw [h0] at hg; rw [show j = j / 3 * 3 by omega, c1]; exact hg.symm
  · rw [h0] at hg; rw [show j = j / 3 * 3 + 1 by omega, c2]; exact hg.symm
  · rw [h0] at hg; rw [show j = j / 3 * 3 + 2 by omega, c3]; exact hg.symm
theorem flatA_len3 (l : List A3) : (flatA l).length = l.length * 3 := by
  induction l with
  | nil => rfl
  | cons x l ih => have e : flatA (x :: l) = actL x ++ flatA l := rfl
                   rw [e, List.length_append, ih, List.length_cons]; show 3 + _ = _; omega
theorem flatA_one (l : List A3) : ∀ v ∈ flatA l, v.oneCell' = true := by
  intro v hv
  obtain ⟨x, _, hx⟩ := List.mem_flatMap.1 hv
  simp [actL] at hx
  rcases hx with rfl | rfl | rfl <;> rfl
def CRPostR (l : List A3) (w : World) (e : Ending) (w' : World) : Prop := ∃ V, e = .returned V ∧ w'.ownsRow w.heap.size 98 3 V l.length (flatA l) ∧ Below w.heap.size w w'
/-- A table in block g: its id, its frame, its runs. -/
structure IsT (w : World) (g : Nat) (id fr : Int) (A : Option Addr) (c : Nat) (L : List A3) : Prop where
  box : w.heap[g]? = some (.cells #[.int .i64 id, .int .i64 fr, .slice A L.length c] 91 (0, 0))
  runs : ActsAt w A L
theorem IsT.kept {w w' : World} {g : Nat} {id fr : Int} {A : Option Addr} {c : Nat} {L : List A3} (h : IsT w g id fr A c L) (b : Below w.heap.size w w') : IsT w' g id fr A c L :=
  ⟨(b.block _ (lt_of_block h.box)).trans h.box, h.runs.kept b⟩
theorem IsT.drewN {w : World} {g : Nat} {id fr : Int} {A : Option Addr} {c : Nat} {L : List A3} (h : IsT w g id fr A c L) (n : Nat) : IsT (w.drewN n) g id fr A c L := h.kept ⟨rfl, rfl, rfl, Nat.le_refl _, fun _ _ => rfl⟩
theorem IsT.cells {w : World} {g : Nat} {id fr : Int} {A : Option Addr} {c : Nat} {L : List A3} (h : IsT w g id fr A c L) : w.cell? ⟨g, 0, none⟩ = some (.int .i64 id) ∧ w.cell? ⟨g, 1, none⟩ = some (.int .i64 fr) ∧ w.cell? ⟨g, 2, none⟩ = some (.slice A L.length c) := by
  refine ⟨?_, ?_, ?_⟩
  all_goals (rw [cell_of_row w _ _ _ _ _ h.box]; rfl)
theorem id_any (g : Nat) (id fr : Int) (A : Option Addr) (c : Nat) (L : List A3) (w : World) (h : IsT w g id fr A c L) :
    Calls Tryd.prog 29 #[.pointer (some ⟨g, 0, none⟩)] w fun e w' => e = .returned (.int .i64 id) ∧ w = w' := by
  obtain ⟨c0, c1, c2⟩ := h.cells
  clear h
  go_enter Tryd.func29, Tryd.ntmps29
  go_wp2
  go_ret
  exact ⟨rfl, rfl⟩
set_option maxRecDepth 4000 in
theorem end_any (g : Nat) (id fr : Int) (A : Option Addr) (c : Nat) (L : List A3) (w : World) (h : IsT w g id fr A c L) (i : Nat) (x : A3) (hx : L[i]? = some x) (hs : 0 ≤ x.p + x.a ∧ x.p + x.a ≤ 1048576) (hl : L.length ≤ 1099511627776) :
    Calls Tryd.prog 53 #[.pointer (some ⟨g, 0, none⟩), .int .i64 (i : Int)] w fun e w' => e = .returned (.int .i64 (x.p + x.a)) ∧ ∃ n, w' = w.drewN n := by
  obtain ⟨c0, c1, c2⟩ := h.cells
  obtain ⟨ax, rfl, d0, d1, d2⟩ := h.runs i x hx
  have hil := (List.getElem?_eq_some_iff.1 hx).1
  obtain ⟨n, hn⟩ : ∃ n, L.length = n := ⟨_, rfl⟩
  rw [hn] at c2 hil hl
  have hi0 : (0 : Int) ≤ i := by omega
  have hin : (i : Int) < n := by omega
  have hw : IntKind.i64.wrap (x.p + x.a) = x.p + x.a := IntWalk.i64_in _ (by omega)
  clear h hx hn hs
  go_enter Tryd.func53, Tryd.ntmps53
  go_wp2
  go_quiet (fail)
  go_wp2
  go_ret
  exact ⟨rfl, nq, rfl⟩
end Go.Proofs.YtofcjkfaccdnjaaDoor.Tab
