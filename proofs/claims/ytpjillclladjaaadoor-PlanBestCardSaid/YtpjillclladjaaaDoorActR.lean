
/- What stands in memory while acts are read: the reader, the last act, the row. No condition. -/

import Derived.Test.YtpjillclladjaaaDoorActM

namespace Go.Proofs.YtpjillclladjaaaDoor.Act

open Go.RowKit Go.PlainAid Go.Proofs.YtpjillclladjaaaDoor.Oct Go.Proofs.YtpjillclladjaaaDoor.Flt Go.Proofs.YtpjillclladjaaaDoor.Rdr Go.Proofs.YtpjillclladjaaaDoor.Args

set_option linter.unusedVariables false

theorem just_grown {w w' : World} {V : Value} {b : Nat} (h : w.grownBy w' V.ownBlock) (hb : ∀ k, V.ownBlock = some k → k = b) : Just b w w' :=
  ⟨h.os, h.tape, h.output, h.size, fun k hk hne => h.block k hk (fun e => hne (hb k e.symm))⟩
theorem row_beside {w w' : World} {b B n : Nat} {T : TypeId} {size : Nat} {V : Value} {xs : List Value} (h : w.ownsRow B T size V n xs) (j : Just b w w') (hne : ∀ k, V.ownBlock = some k → k ≠ b) : w'.ownsRow B T size V n xs := by
  obtain ⟨e1, e2⟩ := h
  refine ⟨e1, ?_⟩
  rcases e2 with h | ⟨g, c, cur, h1, h2, h3, h4⟩
  · exact .inl h
  · have hlt : g < w.heap.size := by
      rcases Nat.lt_or_ge g w.heap.size with hh | hh
      · exact hh
      · rw [Array.getElem?_eq_none hh] at h3; cases h3
    exact .inr ⟨g, c, cur, h1, h2, (j.block _ hlt (hne g (by rw [h1]; rfl))).trans h3, h4⟩
theorem row_base {w : World} {B B' n : Nat} {T : TypeId} {size : Nat} {V : Value} {xs : List Value} (h : w.ownsRow B T size V n xs) (hb : B' ≤ B) : w.ownsRow B' T size V n xs := by
  obtain ⟨e1, e2⟩ := h
  refine ⟨e1, ?_⟩
  rcases e2 with h | ⟨g, c, cur, h1, h2, h3⟩
  · exact .inl h
  · exact .inr ⟨g, c, cur, h1, Nat.le_trans hb h2, h3⟩
theorem just_trans2 {g b : Nat} {a w w' : World} (h : Just g a w) (j : Just b w w') (hb : a.heap.size ≤ b) : Just g a w' :=
  ⟨j.os.trans h.os, j.tape.trans h.tape, j.output.trans h.output, Nat.le_trans h.size j.size, fun k hk hne => (j.block k (by have := h.size; omega) (by omega)).trans (h.block k hk hne)⟩
end Go.Proofs.YtpjillclladjaaaDoor.Act
