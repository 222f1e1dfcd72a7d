/- Contracts of the laws' own copies and comparisons of lists of numbers. -/
import Derived.Test.YtlgnndfhpnbhmaaProg
import Derived.Test.YtlgnndfhpnbhmaaMem
namespace Go.Proofs.Ytlgnndfhpnbhmaa
open Go.RowKit
set_option maxRecDepth 100000

theorem Try.infoU64 : (Try.prog.info? 74).map (fun i => (i.zero, i.size, i.bytes)) = some (some (.int .u64 0), 1, 8) := by kernel_rfl

theorem Try.infoInt : (Try.prog.info? 3).map (fun i => (i.zero, i.size, i.bytes)) = some (some (.int .i64 0), 1, 8) := by kernel_rfl

end Go.Proofs.Ytlgnndfhpnbhmaa
