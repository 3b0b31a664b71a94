
/- What stands in memory while acts are read: the reader, the last act, the row. No condition. -/

import Derived.Test.YtlbpmbdogkfecaaDoorActM

namespace Go.Proofs.YtlbpmbdogkfecaaDoor.Act

open Go.RowKit Go.PlainAid Go.Proofs.YtlbpmbdogkfecaaDoor.Oct Go.Proofs.YtlbpmbdogkfecaaDoor.Flt Go.Proofs.YtlbpmbdogkfecaaDoor.Rdr Go.Proofs.YtlbpmbdogkfecaaDoor.Args

set_option linter.unusedVariables false

theorem just_grown {w w' : World} {V : Value} {b : Nat} (h : w.grownBy w' V.ownBlock) (hb : ∀ k, V.ownBlock = some k → k = b) : Just b w w' :=
  ⟨h.os, h.tape, h.output, h.size, fun k hk hne => h.block k hk (fun e => hne (hb k e.symm))⟩
theorem rdr_beside {w w' : World} {g b : Nat} {t : St} (h : IsRdr w g t) (j : Just b w w') (hne : g ≠ b) (hw : ∀ cs, w.heap[b]? ≠ some (.cells cs 61 (0, 0))) : IsRdr w' g t := by
  obtain ⟨x, hx, hx2⟩ := h
  refine ⟨x, (j.block g (lt_of_block hx) hne).trans hx, hx2.kept fun k cs hk => j.block k (lt_of_block hk) ?_⟩
  rintro rfl
  exact hw cs hk
theorem row_beside {w w' : World} {b B n : Nat} {T : TypeId} {size : Nat} {V : Value} {xs : List Value} (h : w.ownsRow B T size V n xs) (j : Just b w w') (hne : ∀ k, V.ownBlock = some k → k ≠ b) : w'.ownsRow B T size V n xs := by
  obtain ⟨e1, e2⟩ := h
  refine ⟨e1, ?_⟩
  rcases e2 with h | ⟨g, c, cur, h1, h2, h3, h4⟩
  · exact .inl h
  · have hlt : g < w.heap.size := by
      rcases Nat.lt_or_ge g w.heap.size with hh | hh
      · exact hh
      · rw [Array.getElem?_eq_none hh] at h3; cases h3
    exact .inr ⟨g, c, cur, h1, h2, (j.block _ hlt (hne g (by rw [h1]; rfl))).trans h3, h4⟩
theorem row_base {w : World} {B B' n : Nat} {T : TypeId} {size : Nat} {V : Value} {xs : List Value} (h : w.ownsRow B T size V n xs) (hb : B' ≤ B) : w.ownsRow B' T size V n xs := by
  obtain ⟨e1, e2⟩ := h
  refine ⟨e1, ?_⟩
  rcases e2 with h | ⟨g, c, cur, h1, h2, h3⟩
  · exact .inl h
  · exact .inr ⟨g, c, cur, h1, Nat.le_trans hb h2, h3⟩
theorem just_trans2 {g b : Nat} {a w w' : World} (h : Just g a w) (j : Just b w w') (hb : a.heap.size ≤ b) : Just g a w' :=
  ⟨j.os.trans h.os, j.tape.trans h.tape, j.output.trans h.output, Nat.le_trans h.size j.size, fun k hk hne => (j.block k (by have := h.size; omega) (by omega)).trans (h.block k hk hne)⟩
/-- A row of the call's own reads as acts. -/
theorem own_acts {w : World} {B G c : Nat} {l : List A3} (h : w.ownsRow B 30 3 (.slice (some ⟨G, 0, none⟩) l.length c) l.length (flatA l)) : ActsAt w (some ⟨G, 0, none⟩) l := by
  intro i x hx
  have hi : i < l.length := by
    rcases Nat.lt_or_ge i l.length with hh | hh
    · exact hh
    · rw [List.getElem?_eq_none hh] at hx; cases hx
  have e : (Addr.mk G 0 none).add (i * 3) = ⟨G, i * 3, none⟩ := by
    rcases Nat.eq_zero_or_pos (i * 3) with h0 | h0
    · rw [h0]; simp [Addr.add]
    · simp [Addr.add]; omega
  refine ⟨_, rfl, ?_, ?_, ?_⟩
  · have := h.cellAt (i * 3 + 0) (by omega)
    rw [flatA_get l i x 0 hx (by omega)] at this
    rw [e]; exact this
  · have := h.cellAt (i * 3 + 1) (by omega)
    rw [flatA_get l i x 1 hx (by omega)] at this
    rw [e]; exact this
  · have := h.cellAt (i * 3 + 2) (by omega)
    rw [flatA_get l i x 2 hx (by omega)] at this
    rw [e]; exact this
/-- Within Read: the reader g, the last act in block L, the row. -/
structure RA (g L : Nat) (t : St) (l : List A3) (V : Value) (w wr : World) : Prop where
  rd : IsRdr wr g t
  last : wr.heap[L]? = some (.cells #[.int .i64 (lastOf l).s, .int .i64 (lastOf l).p, .int .i64 (lastOf l).a] 30 (0, 0))
  own : wr.ownsRow (w.heap.size + 1) 30 3 V l.length (flatA l)
  just : Just g w wr
  gl : g < w.heap.size
  ll : L = w.heap.size
theorem RA.rdr {g L : Nat} {t t' : St} {l : List A3} {V : Value} {w wr w' : World} (f : RA g L t l V w wr) (hr : IsRdr w' g t') (j : Just g wr w') : RA g L t' l V w w' := by
  have h1 := f.gl
  have h2 := f.ll
  refine ⟨hr, (j.block _ (lt_of_block f.last) (by omega)).trans f.last, row_beside f.own j fun k hk => ?_, f.just.trans j, h1, h2⟩
  have := (f.own.lt k hk).1
  omega
theorem RA.keep {g L : Nat} {t : St} {l : List A3} {V : Value} {w wr w' : World} (f : RA g L t l V w wr) (b : Below wr.heap.size wr w') : RA g L t l V w w' := f.rdr (f.rd.kept b) (Just.of_below b)
theorem RA.names {g L : Nat} {t t0 : St} {l : List A3} {V : Value} {w wr : World} (f : RA g L t l V w wr) (hn : Names w) (hr : IsRdr w g t0) : Names wr := Rdr.Names.just hn hr f.just
end Go.Proofs.YtlbpmbdogkfecaaDoor.Act
