/- The laws' count of a number in a list. -/
import Derived.Test.YtnlpmcgpdaifoaaProg
import Derived.Test.YtnlpmcgpdaifoaaLaws2
namespace Go.Proofs.Ytnlpmcgpdaifoaa
open Go.RowKit
set_option maxRecDepth 100000

theorem count_take (L : List Int) (x y : Int) (k : Nat) (h : L[k]? = some y) : (L.take (k + 1)).count x = (L.take k).count x + if y = x then 1 else 0 := by
  rw [List.take_add_one, h, Option.toList_some, List.count_append, List.count_singleton]
  by_cases e : y = x <;> simp [e]

end Go.Proofs.Ytnlpmcgpdaifoaa
