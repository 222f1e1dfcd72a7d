/- Contracts of the laws' own comparisons, marks and tests of lists of numbers. -/
import Derived.Test.YtlbnngolcoefdaaDoorProg
import Derived.Test.YtlbnngolcoefdaaDoorMem3
namespace Go.Proofs.YtlbnngolcoefdaaDoor
open Go.RowKit
set_option maxRecDepth 100000

/-- What a list holds after m rounds of being marked from k on. -/
def marked (f : Int → Value) (k : Int) (xs : List Value) (m : Nat) : List Value := (List.range m).map (fun (j : Nat) => f (k + j)) ++ xs.drop m
theorem marked_zero (f : Int → Value) (k : Int) (xs : List Value) : marked f k xs 0 = xs := by simp [marked]
theorem marked_all (f : Int → Value) (k : Int) (xs : List Value) (n : Nat) (h : xs.length = n) : marked f k xs n = (List.range n).map (fun (j : Nat) => f (k + j)) := by
  subst h; simp [marked]
theorem marked_succ (f : Int → Value) (k : Int) (xs : List Value) (m : Nat) (h : m < xs.length) : marked f k xs (m + 1) = (marked f k xs m).set m (f (k + m)) := by
  unfold marked
  rw [List.set_append_right _ _ (by simp), List.length_map, List.length_range, Nat.sub_self, List.range_succ, List.map_append, List.drop_eq_getElem_cons h, List.set_cons_zero]
  simp
theorem marked_get (f : Int → Value) (k : Int) (xs : List Value) (m : Nat) (h : m < xs.length) : ∃ u, (marked f k xs m)[m]? = some u := by
  refine ⟨xs[m], ?_⟩
  unfold marked
  rw [List.getElem?_append_right (by simp), List.length_map, List.length_range, Nat.sub_self, List.drop_eq_getElem_cons h]
  rfl

end Go.Proofs.YtlbnngolcoefdaaDoor
