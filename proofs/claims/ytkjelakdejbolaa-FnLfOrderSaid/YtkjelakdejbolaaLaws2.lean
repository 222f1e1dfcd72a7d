/- Contracts of the laws' own copies and comparisons of lists of numbers. -/
import Derived.Test.YtkjelakdejbolaaProg
import Derived.Test.YtkjelakdejbolaaMem
namespace Go.Proofs.Ytkjelakdejbolaa
open Go.RowKit
set_option maxRecDepth 100000

theorem Try.infoU64 : (Try.prog.info? 73).map (fun i => (i.zero, i.size, i.bytes)) = some (some (.int .u64 0), 1, 8) := by kernel_rfl

theorem Try.infoInt : (Try.prog.info? 3).map (fun i => (i.zero, i.size, i.bytes)) = some (some (.int .i64 0), 1, 8) := by kernel_rfl

end Go.Proofs.Ytkjelakdejbolaa
