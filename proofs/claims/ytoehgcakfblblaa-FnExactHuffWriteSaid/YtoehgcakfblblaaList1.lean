/- BitsList, the specification's and the program's. -/
import Derived.Test.YtoehgcakfblblaaSpec4
import Derived.Test.YtoehgcakfblblaaAt2
namespace Go.Proofs.Ytoehgcakfblblaa
open Go.RowKit
set_option maxRecDepth 100000

/-- What BitsList is to return. -/
def listV (N : Int) (L : List Nat) : List Int := if okB N L = true then bitsOf N.toNat L else []

/-- A new list of numbers is returned, and nothing that was there is touched. -/
def NewInts (w : World) (M : List Int) (e : Ending) (w' : World) : Prop :=
  ∃ v, e = .returned v ∧ w'.ownsRow w.heap.size 3 1 v M.length (M.map I) ∧ Below w.heap.size w w'

end Go.Proofs.Ytoehgcakfblblaa
