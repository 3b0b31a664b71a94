
/- That faults stay what they are where their wraps' blocks stay as they are. It says nothing of what the program does. No condition. -/

import Derived.Test.YtpjillclladjaaaDoorFltA

import Derived.Laws.StructEq

namespace Go.Proofs.YtpjillclladjaaaDoor.Flt

open Go.RowKit Go.PlainAid

/-- The wraps' blocks are as they were. -/
def KeptW (w w' : World) : Prop := ∀ (g : Nat) (cs : Array Value), w.heap[g]? = some (.cells cs 79 (0, 0)) → w'.heap[g]? = w.heap[g]?
theorem KeptW.trans {a b c : World} (h : KeptW a b) (k : KeptW b c) : KeptW a c := fun g cs hg => (k g cs ((h g cs hg).trans hg)).trans (h g cs hg)
theorem KeptW.below {w w' : World} (b : Below w.heap.size w w') : KeptW w w' := fun g _ hg => b.block g (lt_of_block hg)
theorem IsFault.only {w w' : World} (b : KeptW w w') : ∀ {ws : List (Bool × Int)} {x : Value} {k : Int}, IsFault w x ws k → IsFault w' x ws k
  | [], _, _, h => h
  | (_, _) :: _, _, _, ⟨g, y, e, hg, hy⟩ => ⟨g, y, e, (b g _ hg).trans hg, hy.only b⟩
theorem eq_flt (a b c : Int) (w : World) : (Op.equalIn 10000 40 (.agg #[.int .i64 a, .int .i64 b, .int .i64 c]) (.agg #[.int .i64 a, .int .i64 b, .int .i64 c])).run Tryd.prog w = .ok true w := by
  have hS : Tryd.prog.underlying 40 = some (.struct (Tryd.prog.fieldsOf 40)) := by kernel_rfl
  rw [show (10000 : Nat) = 9999 + 1 from rfl, run_equalIn_agg w 9999 40 _ _ hS (by kernel_rfl)]
  simp only [Program.fieldsOf, Tryd.underlying40]
  go_simp
end Go.Proofs.YtpjillclladjaaaDoor.Flt
