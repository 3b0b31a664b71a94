
/- What the document tells of counts and headers: Fine, Right; the law's plain. No condition. -/

import Derived.Test.YtlbpmbdogkfecaaDoorHdrA

namespace Go.Proofs.YtlbpmbdogkfecaaDoor.Hdr

open Go.RowKit Go.PlainAid Go.Proofs.YtlbpmbdogkfecaaDoor.Oct Go.Proofs.YtlbpmbdogkfecaaDoor.Flt Go.Proofs.YtlbpmbdogkfecaaDoor.Rdr

set_option linter.unusedVariables false

theorem second_new (w : World) (o p : Obj) : ((w.alloc o).alloc p).heap[w.heap.size + 1]? = some p := by have := heap_alloc_new (w.alloc o) p; simpa using this
def hd0 : Array Value := #[.int .u32 0, .int .u64 0, .int .i64 0, .int .i64 0, .int .i64 0, .int .i64 0, .int .i64 0]
theorem one_hd (h : H7) : (hdC h).all (·.oneCell') = true := by simp [hdC, Value.oneCell']
theorem below_set2 {w W : World} {g : Nat} {cs : Array Value} (h : Below w.heap.size w W) (hg : w.heap.size ≤ g) : Below w.heap.size w (W.setRow g cs) :=
  h.trans ⟨rfl, rfl, rfl, by simp, fun k hk => setRow_other _ _ _ _ (by omega)⟩
end Go.Proofs.YtlbpmbdogkfecaaDoor.Hdr
