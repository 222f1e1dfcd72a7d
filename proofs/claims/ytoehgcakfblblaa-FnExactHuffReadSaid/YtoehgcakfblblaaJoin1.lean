/- The specification's BitsJoin. -/
import Derived.Test.YtoehgcakfblblaaNewB
import Derived.Test.YtoehgcakfblblaaAppend2
import Derived.Test.YtoehgcakfblblaaJoinMath
import Derived.Test.YtoehgcakfblblaaSpec4
namespace Go.Proofs.Ytoehgcakfblblaa
open Go.RowKit
set_option maxRecDepth 100000

/-- What BitsJoin is to return. -/
def jOk (N : Int) (L : List Nat) (M : Int) (K : List Nat) : Bool := okB N L && okB M K && decide (N + M ≤ 5000)
def jN (N : Int) (L : List Nat) (M : Int) (K : List Nat) : Int := if jOk N L M K = true then N + M else 0
def jW (N : Int) (L : List Nat) (M : Int) (K : List Nat) : List Nat := if jOk N L M K = true then wordsOf (bitsOf N.toNat L ++ bitsOf M.toNat K) else []

theorem newBits_no (N : Int) (L : List Nat) (M : Int) (K : List Nat) (h : jOk N L M K = false) {w w' : World} (hb : Below w.heap.size w w') :
    NewBits w (jN N L M K) (jW N L M K) (jOk N L M K) (.returned (.tuple #[.agg #[.int .i64 0, .slice none 0 0], .bool false])) w' := by
  unfold NewBits jN jW
  rw [h, if_neg (by simp), if_neg (by simp)]
  exact ⟨none, 0, rfl, World.ownsRow_nil _ _ _ _, hb⟩

end Go.Proofs.Ytoehgcakfblblaa
