import Derived.Test.YtoehgcakfblblaaDoorProg
import Derived.Test.YtoehgcakfblblaaDoorDraw3
import Derived.Test.YtoehgcakfblblaaDoorBytes1
/- Contracts of the laws' own copies and comparisons of lists of numbers. -/
namespace Go.Proofs.YtoehgcakfblblaaDoor
open Go.RowKit
set_option maxRecDepth 100000

theorem Tryd.infoU64 : (Tryd.prog.info? 64).map (fun i => (i.zero, i.size, i.bytes)) = some (some (.int .u64 0), 1, 8) := by kernel_rfl

theorem Tryd.infoInt : (Tryd.prog.info? 3).map (fun i => (i.zero, i.size, i.bytes)) = some (some (.int .i64 0), 1, 8) := by kernel_rfl

end Go.Proofs.YtoehgcakfblblaaDoor

/- The laws' own copy of a list of numbers. -/
namespace Go.Proofs.YtoehgcakfblblaaDoor
open Go.RowKit
set_option maxRecDepth 100000

end Go.Proofs.YtoehgcakfblblaaDoor

/- New lists of numbers, and the laws' copy of one. -/
namespace Go.Proofs.YtoehgcakfblblaaDoor
open Go.RowKit
set_option maxRecDepth 100000

/-- A new list of numbers is returned. -/
def NewI (w : World) (M : List Int) (e : Ending) (w' : World) : Prop :=
  ∃ A c, e = .returned (.slice A M.length c) ∧ w'.ownsRow w.heap.size 3 1 (.slice A M.length c) M.length (M.map I) ∧ Below w.heap.size w w'

theorem newI_own {w w' : World} {v : Value} {M : List Int} {n : Nat} (h : w'.ownsRow w.heap.size 3 1 v n (M.map I)) (hn : M.length = n) (hb : Below w.heap.size w w') : NewI w M (.returned v) w' := by
  subst hn
  obtain ⟨A, c, rfl⟩ := own_slice h
  exact ⟨A, c, rfl, h, hb⟩

end Go.Proofs.YtoehgcakfblblaaDoor
