/- The cells of a new hash: the table, all ones, no bytes. It says nothing of the program but what its types hold. No condition. -/
import Derived.Test.YtlfhldfclleclaaCrcB
namespace Go.Proofs.Ytlfhldfclleclaa.Crc
open Go.RowKit Go.PlainAid

/-- A hash's cells: the table, what rests, how many bytes there were. -/
def hashCells (r n : Nat) : Array Value := tab 256 ++ #[.int .u32 r, .int .i64 n]
theorem built_hash : Try.prog.built 56 [(0, .agg (tab 256)), (1, .int .u32 4294967295)] = some (hashCells 4294967295 0) := by kernel_rfl
end Go.Proofs.Ytlfhldfclleclaa.Crc
