/- Crc, the program's and the specification's. -/
import Derived.Test.YtkjelakdejbolaaProg
import Derived.Test.YtkjelakdejbolaaCrcMath
namespace Go.Proofs.Ytkjelakdejbolaa
open Go.RowKit
set_option maxRecDepth 100000

end Go.Proofs.Ytkjelakdejbolaa
