
/- What the document's Right tells of a header: the same as the program's. No condition. -/

import Derived.Test.YtlbpmbdogkfecaaDoorHdrB

namespace Go.Proofs.YtlbpmbdogkfecaaDoor.Hdr

open Go.RowKit Go.PlainAid Go.Proofs.YtlbpmbdogkfecaaDoor.Oct Go.Proofs.YtlbpmbdogkfecaaDoor.Flt Go.Proofs.YtlbpmbdogkfecaaDoor.Rdr

set_option linter.unusedVariables false

/-- The count at place i, from 0 on. -/
def cntAt (h : H7) : Nat → Int
  | 0 => h.a
  | 1 => h.b
  | 2 => h.c
  | _ => h.d
theorem bad_at {h : H7} (h0 : ¬ (h.fi < 0 ∨ 255 < h.fi)) {m : Nat} (hm : m < 4) (hall : ∀ j, j < m → fineB j (cntAt h j) = true) (hx : fineB m (cntAt h m) = false) : bad h = (8, ((m + 1 : Nat) : Int)) := by
  unfold bad
  rw [if_neg h0]
  rcases (show m = 0 ∨ m = 1 ∨ m = 2 ∨ m = 3 by omega) with rfl | rfl | rfl | rfl
  · have e : fineB 0 h.a = false := hx
    rw [if_pos e]; rfl
  · have e0 : fineB 0 h.a = true := hall 0 (by omega)
    have e : fineB 1 h.b = false := hx
    rw [e0, e]; rfl
  · have e0 : fineB 0 h.a = true := hall 0 (by omega)
    have e1 : fineB 1 h.b = true := hall 1 (by omega)
    have e : fineB 2 h.c = false := hx
    rw [e0, e1, e]; rfl
  · have e0 : fineB 0 h.a = true := hall 0 (by omega)
    have e1 : fineB 1 h.b = true := hall 1 (by omega)
    have e2 : fineB 2 h.c = true := hall 2 (by omega)
    have e : fineB 3 h.d = false := hx
    rw [e0, e1, e2, e]; rfl
theorem bad_none {h : H7} (h0 : ¬ (h.fi < 0 ∨ 255 < h.fi)) (hall : ∀ j, j < 4 → fineB j (cntAt h j) = true) : bad h = (0, 0) := by
  unfold bad
  rw [if_neg h0]
  have e0 : fineB 0 h.a = true := hall 0 (by omega)
  have e1 : fineB 1 h.b = true := hall 1 (by omega)
  have e2 : fineB 2 h.c = true := hall 2 (by omega)
  have e3 : fineB 3 h.d = true := hall 3 (by omega)
  rw [e0, e1, e2, e3]; rfl
def RRel (h : H7) (w : World) (i : Value) (wr : World) : Prop :=
  ∃ m : Nat, 1 ≤ m ∧ m ≤ 5 ∧ i = .int .i64 m ∧ (∀ j, j < m - 1 → fineB j (cntAt h j) = true) ∧ wr.heap[w.heap.size + 1]? = some (.cells #[.int .i64 0, .int .i64 0, .int .i64 0] 41 (0, 0)) ∧
    wr.heap[w.heap.size + 2]? = some (.cells #[.int .i64 0, .int .i64 h.a, .int .i64 h.b, .int .i64 h.c, .int .i64 h.d] 3 (0, 0)) ∧ Below w.heap.size w wr
theorem third_facts (w : World) (o1 o2 o3 : Obj) : (((w.alloc o1).alloc o2).alloc o3).heap[w.heap.size + 1]? = some o2 ∧ (((w.alloc o1).alloc o2).alloc o3).heap[w.heap.size + 2]? = some o3 ∧ Below w.heap.size w (((w.alloc o1).alloc o2).alloc o3) := by
  refine ⟨?_, ?_, (two_below w o1 o2).alloc (by simp; omega) o3⟩
  · rw [heap_alloc_old _ _ (by simp)]; exact second_new w o1 o2
  · have := heap_alloc_new ((w.alloc o1).alloc o2) o3; simpa using this
end Go.Proofs.YtlbpmbdogkfecaaDoor.Hdr
