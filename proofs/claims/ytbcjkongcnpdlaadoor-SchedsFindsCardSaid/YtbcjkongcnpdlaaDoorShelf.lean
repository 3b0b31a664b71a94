/- No contract of the library's own functions is wanted here. It says nothing. No condition. -/
import Derived.Test.YtbcjkongcnpdlaaDoorProg
namespace Go.Proofs.YtbcjkongcnpdlaaDoor.Shelf
theorem none_wanted : True := trivial
end Go.Proofs.YtbcjkongcnpdlaaDoor.Shelf
