import Derived.Test.YtoehgcakfblblaaDoorBytes1
/- Contracts of the laws' own marks and tests of lists of words and of bit vectors. -/
namespace Go.Proofs.YtoehgcakfblblaaDoor
open Go.RowKit
set_option maxRecDepth 100000

theorem lies_ints {w : World} {A : Option Addr} {c n : Nat} {base : Nat} {e : TypeId} {f : Int → Value} {k : Int} (h : w.ownsRow base e 1 (.slice A n c) n ((List.range n).map fun (j : Nat) => f (k + j))) :
    Lies w f A ((List.range n).map fun (j : Nat) => k + (j : Int)) := by
  refine Lies.of_own (n := n) (c := c) (base := base) (e := e) ?_
  rw [List.map_map]
  exact h

end Go.Proofs.YtoehgcakfblblaaDoor

/- The laws' marks of lists of words and of bit vectors, from a greater number on. -/
namespace Go.Proofs.YtoehgcakfblblaaDoor
open Go.RowKit
set_option maxRecDepth 100000

end Go.Proofs.YtoehgcakfblblaaDoor
