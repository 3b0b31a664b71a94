
/- Windows: whose a tick is. Condition: at most 1,000 windows of plain numbers, a frame of 0 to 1,048,576. -/

import Derived.Test.YtofcjkfaccdnjaaDoorWinG

import Derived.OwnWalk

namespace Go.Proofs.YtofcjkfaccdnjaaDoor.Win

open Go.RowKit Go.PlainAid Go.Proofs.YtofcjkfaccdnjaaDoor.Oct Go.Proofs.YtofcjkfaccdnjaaDoor.Flt Go.Proofs.YtofcjkfaccdnjaaDoor.Rdr Go.Proofs.YtofcjkfaccdnjaaDoor.Args

open Go.Proofs.YtofcjkfaccdnjaaDoor.Act (A3 actL flatA ActsAt I64 Wide row_beside row_base)

set_option linter.unusedVariables false

set_option linter.unusedSimpArgs false

def OnRel (xs : Array Value) (fr t r : Int) (l : List A3) (w : World) (i : Value) (wr : World) : Prop :=
  ∃ k : Nat, k ≤ l.length ∧ i = .int .i64 (k : Int) ∧ ownT fr (l.drop k) t = r ∧ wr.heap[w.heap.size]? = some (.cells xs 37 (0, 0)) ∧ Below w.heap.size w wr
end Go.Proofs.YtofcjkfaccdnjaaDoor.Win
