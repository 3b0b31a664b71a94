
/- What the document's Get of a name reads: the same as the program's. No condition. -/

import Derived.Test.YtplllmfbpliciaaGreatDoorNamC

namespace Go.Proofs.YtplllmfbpliciaaGreatDoor.Nam

open Go.RowKit Go.PlainAid Go.Proofs.YtplllmfbpliciaaGreatDoor.Oct Go.Proofs.YtplllmfbpliciaaGreatDoor.Flt Go.Proofs.YtplllmfbpliciaaGreatDoor.Rdr

set_option linter.unusedVariables false

abbrev W0 (w : World) (t : St) : World := (w.alloc (.cells (rdC t) 43)).alloc (.cells rd0 43)
abbrev W1 (w1 : World) (t1 : St) : World := w1.alloc (.cells (rdC t1) 43)
theorem facts_num {w w1 : World} {t : St} (hb : Below (W0 w t).heap.size (W0 w t) w1) :
    Hid (w1.heap[w.heap.size + 1]? = some (.cells rd0 43 (0, 0))) ∧ Hid (Below w.heap.size w w1) ∧ w.heap.size + 1 < w1.heap.size := by
  refine ⟨(hb.block _ (by simp [W0])).trans (by have := heap_alloc_new (w.alloc (.cells (rdC t) 43)) (.cells rd0 43); simpa [W0] using this), (two_below w _ _).trans (hb.mono (two_below w _ _).size), ?_⟩
  have := hb.size; simp [W0] at this; omega
theorem facts_two {w w1 w2 : World} {t1 : St} (hr : w1.heap[w.heap.size + 1]? = some (.cells rd0 43 (0, 0))) (hbe : Below w.heap.size w w1) (hz : w.heap.size + 1 < w1.heap.size) (hb : Below (W1 w1 t1).heap.size (W1 w1 t1) w2) :
    Hid (w2.heap[w.heap.size + 1]? = some (.cells rd0 43 (0, 0))) ∧ Hid (w2.heap[w1.heap.size]? = some (.cells (rdC t1) 43 (0, 0))) ∧ Hid (Below w.heap.size w w2) ∧ w1.heap.size < w2.heap.size := by
  refine ⟨(hb.block _ (by simp [W1]; omega)).trans ((Below.heap_alloc _ _ _ (by omega)).trans hr), (hb.block _ (by simp [W1])).trans (heap_alloc_new _ _), (hbe.alloc hbe.size _).trans (hb.mono ?_), ?_⟩
  · have := hbe.size; simp [W1]; omega
  · have := hb.size; simp [W1] at this; omega
theorem facts_set {w w1 w2 : World} {t1 t3 : St} (hr : w2.heap[w.heap.size + 1]? = some (.cells rd0 43 (0, 0))) (hc : w2.heap[w1.heap.size]? = some (.cells (rdC t1) 43 (0, 0))) (hbe : Below w.heap.size w w2) (hz : w.heap.size + 1 < w1.heap.size) :
    Hid ((w2.setRow w1.heap.size (rdC t3)).heap[w.heap.size + 1]? = some (.cells rd0 43 (0, 0))) ∧ Hid ((w2.setRow w1.heap.size (rdC t3)).heap[w1.heap.size]? = some (.cells (rdC t3) 43 (0, 0))) ∧ Hid (Below w.heap.size w (w2.setRow w1.heap.size (rdC t3))) ∧
      (w2.setRow w1.heap.size (rdC t3)).cell? ⟨w1.heap.size, 3, none⟩ = some (.int .i64 t3.k) := by
  have h1 : (w2.setRow w1.heap.size (rdC t3)).heap[w1.heap.size]? = some (.cells (rdC t3) 43 (0, 0)) := setRow_heap _ _ _ _ _ _ hc
  refine ⟨(setRow_other _ _ _ _ (by omega)).trans hr, h1, below_setRow hbe (by omega), ?_⟩
  rw [cell_of_row _ _ _ _ _ _ h1]; rfl
theorem facts_three {w W w3 : World} (hr : W.heap[w.heap.size + 1]? = some (.cells rd0 43 (0, 0))) (hbe : Below w.heap.size w W) (hb : Below W.heap.size W w3) :
    Hid (w3.heap[w.heap.size + 1]? = some (.cells rd0 43 (0, 0))) ∧ Hid (Below w.heap.size w w3) :=
  ⟨(hb.block _ (lt_of_block hr)).trans hr, hbe.trans (hb.mono hbe.size)⟩
theorem len_rd (t : St) : (rdC t).size = 6 := rfl
end Go.Proofs.YtplllmfbpliciaaGreatDoor.Nam
