/- SuffixCmp. -/
import Derived.Test.YtkjelakdejbolaaSf2
import Derived.Test.YtkjelakdejbolaaSlCut
import Derived.Deep.RegionHeld3
namespace Go.Proofs.Ytkjelakdejbolaa
open Go.RowKit
set_option maxRecDepth 100000

/-- What SuffixCmp is to return. -/
def scV (L : List Nat) (i j : Int) : Int := if L.length ≤ 300 ∧ (0 ≤ i ∧ i ≤ (L.length : Int)) ∧ 0 ≤ j ∧ j ≤ (L.length : Int) then lcmp (L.drop i.toNat) (L.drop j.toNat) else 0

end Go.Proofs.Ytkjelakdejbolaa
