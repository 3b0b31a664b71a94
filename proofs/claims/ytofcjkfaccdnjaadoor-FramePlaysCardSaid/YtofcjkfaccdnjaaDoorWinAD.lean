
/- Two rows of windows are one, as the document tells it; a row of the call's own as windows. Condition: at most 2 to the power 40 windows. -/

import Derived.Test.YtofcjkfaccdnjaaDoorWinD

import Derived.Laws.OwnMore

namespace Go.Proofs.YtofcjkfaccdnjaaDoor.Win

open Go.RowKit Go.PlainAid Go.Proofs.YtofcjkfaccdnjaaDoor.Oct Go.Proofs.YtofcjkfaccdnjaaDoor.Flt Go.Proofs.YtofcjkfaccdnjaaDoor.Rdr Go.Proofs.YtofcjkfaccdnjaaDoor.Args

open Go.Proofs.YtofcjkfaccdnjaaDoor.Act (A3 actL flatA flatA_len flatA_get flatA_snoc ActsAt I64 Wide row_beside)

set_option linter.unusedVariables false

set_option linter.unusedSimpArgs false

theorem eqWin (a b c : Int) (w : World) : (Op.equalIn 10000 82 (.agg #[.int .i64 a, .int .i64 b, .int .i64 c]) (.agg #[.int .i64 a, .int .i64 b, .int .i64 c])).run Tryd.prog w = .ok true w := by
  have hS : Tryd.prog.underlying 82 = some (.struct (Tryd.prog.fieldsOf 82)) := by kernel_rfl
  rw [show (10000 : Nat) = 9999 + 1 from rfl, run_equalIn_agg w 9999 82 _ _ hS (by kernel_rfl)]
  simp only [Program.fieldsOf, Tryd.underlying82]
  go_simp
theorem own_wins {w : World} {B G c : Nat} {l : List A3} (h : w.ownsRow B 82 3 (.slice (some ⟨G, 0, none⟩) l.length c) l.length (flatA l)) : ActsAt w (some ⟨G, 0, none⟩) l := by
  intro i x hx
  have hi : i < l.length := (List.getElem?_eq_some_iff.1 hx).1
  have e : (Addr.mk G 0 none).add (i * 3) = ⟨G, i * 3, none⟩ := by
    rcases Nat.eq_zero_or_pos (i * 3) with h0 | h0
    · rw [h0]; simp [Addr.add]
    · simp [Addr.add]; omega
  refine ⟨_, rfl, ?_, ?_, ?_⟩
  · have := h.cellAt (i * 3 + 0) (by omega)
    rw [flatA_get l i x 0 hx (by omega)] at this
    rw [e]; exact this
  · have := h.cellAt (i * 3 + 1) (by omega)
    rw [flatA_get l i x 1 hx (by omega)] at this
    rw [e]; exact this
  · have := h.cellAt (i * 3 + 2) (by omega)
    rw [flatA_get l i x 2 hx (by omega)] at this
    rw [e]; exact this
theorem own_atW {w : World} {B n : Nat} {V : Value} {l : List A3} (h : w.ownsRow B 82 3 V n (flatA l)) (hn : n = l.length) : ∃ A c, V = .slice A n c ∧ ActsAt w A l := by
  subst hn
  rcases h.2 with ⟨rfl, h0⟩ | ⟨g, c, cur, rfl, h2, h3, h4⟩
  · refine ⟨none, 0, by rw [h0], fun i x hx => ?_⟩
    have : l = [] := List.eq_nil_of_length_eq_zero h0
    rw [this] at hx; simp at hx
  · exact ⟨_, c, rfl, own_wins h⟩
/-- A row that grows in the call's own memory, behind w0. -/
structure NW (L : List A3) (N : Value) (w0 wr : World) : Prop where
  own : wr.ownsRow w0.heap.size 82 3 N L.length (flatA L)
  below : Below w0.heap.size w0 wr
theorem NW.keep {L : List A3} {N : Value} {w0 wr w' : World} (f : NW L N w0 wr) (b : Below wr.heap.size wr w') : NW L N w0 w' := ⟨owns_kept f.own b, f.below.trans (b.mono f.below.size)⟩
theorem NW.grown {L : List A3} {x : A3} {N N' : Value} {w0 wr w' : World} (f : NW L N w0 wr) (hg : wr.grownBy w' N.ownBlock) (n : Nat) (hn : n = L.length + 1) (ho : w'.ownsRow w0.heap.size 82 3 N' n (flatA L ++ actL x)) : NW (L ++ [x]) N' w0 w' :=
  ⟨by rw [List.length_append, List.length_singleton, ← hn, flatA_snoc]; exact ho, f.below.grown hg f.below.size (fun j hj => (f.own.lt j hj).1)⟩
end Go.Proofs.YtofcjkfaccdnjaaDoor.Win
