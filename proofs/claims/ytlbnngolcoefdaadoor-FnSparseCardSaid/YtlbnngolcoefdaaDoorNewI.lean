import Derived.Test.YtlbnngolcoefdaaDoorProg
import Derived.Test.YtlbnngolcoefdaaDoorMem3
import Derived.Test.YtlbnngolcoefdaaDoorLaws5
/- Contracts of the laws' own comparisons, marks and tests of lists of numbers. -/
namespace Go.Proofs.YtlbnngolcoefdaaDoor
open Go.RowKit
set_option maxRecDepth 100000

/-- What a list holds after m rounds of being marked from k on. -/
def marked (f : Int → Value) (k : Int) (xs : List Value) (m : Nat) : List Value := (List.range m).map (fun (j : Nat) => f (k + j)) ++ xs.drop m
theorem marked_zero (f : Int → Value) (k : Int) (xs : List Value) : marked f k xs 0 = xs := by simp [marked]
theorem marked_all (f : Int → Value) (k : Int) (xs : List Value) (n : Nat) (h : xs.length = n) : marked f k xs n = (List.range n).map (fun (j : Nat) => f (k + j)) := by
  subst h; simp [marked]
theorem marked_succ (f : Int → Value) (k : Int) (xs : List Value) (m : Nat) (h : m < xs.length) : marked f k xs (m + 1) = (marked f k xs m).set m (f (k + m)) := by
  unfold marked
  rw [List.set_append_right _ _ (by simp), List.length_map, List.length_range, Nat.sub_self, List.range_succ, List.map_append, List.drop_eq_getElem_cons h, List.set_cons_zero]
  simp
theorem marked_get (f : Int → Value) (k : Int) (xs : List Value) (m : Nat) (h : m < xs.length) : ∃ u, (marked f k xs m)[m]? = some u := by
  refine ⟨xs[m], ?_⟩
  unfold marked
  rw [List.getElem?_append_right (by simp), List.length_map, List.length_range, Nat.sub_self, List.drop_eq_getElem_cons h]
  rfl

end Go.Proofs.YtlbnngolcoefdaaDoor

/- The laws' own copy of a list of numbers. -/
namespace Go.Proofs.YtlbnngolcoefdaaDoor
open Go.RowKit
set_option maxRecDepth 100000

end Go.Proofs.YtlbnngolcoefdaaDoor

/- New lists of numbers, and the laws' copy of one. -/
namespace Go.Proofs.YtlbnngolcoefdaaDoor
open Go.RowKit
set_option maxRecDepth 100000

/-- A new list of numbers is returned. -/
def NewI (w : World) (M : List Int) (e : Ending) (w' : World) : Prop :=
  ∃ A c, e = .returned (.slice A M.length c) ∧ w'.ownsRow w.heap.size 3 1 (.slice A M.length c) M.length (M.map I) ∧ Below w.heap.size w w'

theorem newI_own {w w' : World} {v : Value} {M : List Int} {n : Nat} (h : w'.ownsRow w.heap.size 3 1 v n (M.map I)) (hn : M.length = n) (hb : Below w.heap.size w w') : NewI w M (.returned v) w' := by
  subst hn
  obtain ⟨A, c, rfl⟩ := own_slice h
  exact ⟨A, c, rfl, h, hb⟩

end Go.Proofs.YtlbnngolcoefdaaDoor
