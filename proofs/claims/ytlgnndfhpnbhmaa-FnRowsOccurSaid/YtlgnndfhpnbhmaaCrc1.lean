/- Crc, the program's and the specification's. -/
import Derived.Test.YtlgnndfhpnbhmaaProg
import Derived.Test.YtlgnndfhpnbhmaaCrcMath
namespace Go.Proofs.Ytlgnndfhpnbhmaa
open Go.RowKit
set_option maxRecDepth 100000

end Go.Proofs.Ytlgnndfhpnbhmaa
