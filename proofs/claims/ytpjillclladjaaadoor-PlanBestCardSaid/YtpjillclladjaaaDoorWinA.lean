
/- Windows: their order, as the program tells it; rows of windows. No condition. -/

import Derived.Test.YtpjillclladjaaaDoorWinM

import Derived.Test.YtpjillclladjaaaDoorShelf

import Derived.Test.YtpjillclladjaaaDoorActR

import Derived.LoopN

import Derived.BigQuiet

import Derived.BigRegion

import Derived.Deep.RegionHeld3

namespace Go.Proofs.YtpjillclladjaaaDoor.Win

open Go.RowKit Go.PlainAid Go.Proofs.YtpjillclladjaaaDoor.Oct Go.Proofs.YtpjillclladjaaaDoor.Flt Go.Proofs.YtpjillclladjaaaDoor.Rdr Go.Proofs.YtpjillclladjaaaDoor.Args

open Go.Proofs.YtpjillclladjaaaDoor.Act (A3 actL flatA ActsAt I64 Wide)

open Go.Sort (grow)

set_option linter.unusedVariables false

set_option linter.unusedSimpArgs false

def winC (x : A3) : Array Value := #[.int .i64 x.s, .int .i64 x.p, .int .i64 x.a]
theorem kept6 {W w2 : World} {a b c d e f : Addr} {va vb vc vd ve vf : Value} (h : W.cell? a = some va ∧ W.cell? b = some vb ∧ W.cell? c = some vc ∧ W.cell? d = some vd ∧ W.cell? e = some ve ∧ W.cell? f = some vf) (hb : Below W.heap.size W w2) : w2.cell? a = some va ∧ w2.cell? b = some vb ∧ w2.cell? c = some vc ∧ w2.cell? d = some vd ∧ w2.cell? e = some ve ∧ w2.cell? f = some vf :=
  ⟨(hb.cell (Go.block_lt_of_cell h.1)).trans h.1, (hb.cell (Go.block_lt_of_cell h.2.1)).trans h.2.1, (hb.cell (Go.block_lt_of_cell h.2.2.1)).trans h.2.2.1, (hb.cell (Go.block_lt_of_cell h.2.2.2.1)).trans h.2.2.2.1, (hb.cell (Go.block_lt_of_cell h.2.2.2.2.1)).trans h.2.2.2.2.1, (hb.cell (Go.block_lt_of_cell h.2.2.2.2.2)).trans h.2.2.2.2.2⟩
end Go.Proofs.YtpjillclladjaaaDoor.Win
