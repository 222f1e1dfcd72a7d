/- The specification's Select. -/
import Derived.Test.YtoehgcakfblblaaDoorWvMath2
import Derived.Test.YtoehgcakfblblaaDoorLaws5
import Derived.Test.YtoehgcakfblblaaDoorSfD1
namespace Go.Proofs.YtoehgcakfblblaaDoor
open Go.RowKit
set_option maxRecDepth 100000

/-- The answer of Select as a number. -/
def selI (L : List Nat) (b : Int) (n k : Nat) : Int := match selN L b n k with | some i => (i : Int) | none => -1
theorem selI_some (L : List Nat) (b : Int) (n k i : Nat) (hi : i < n) (hb : (bitN L i : Int) = b) (hc : cnt L b i = k) : selI L b n k = i := by unfold selI; rw [selN_some L b n k i hi hb hc]
theorem selI_none (L : List Nat) (b : Int) (n k : Nat) (h : cnt L b n ≤ k) : selI L b n k = -1 := by unfold selI; rw [selN_none L b n k h]

end Go.Proofs.YtoehgcakfblblaaDoor
