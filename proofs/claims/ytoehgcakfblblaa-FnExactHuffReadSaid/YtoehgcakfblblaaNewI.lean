/- New lists of numbers, and the laws' copy of one. -/
import Derived.Test.YtoehgcakfblblaaInts2
import Derived.Test.YtoehgcakfblblaaInts1
namespace Go.Proofs.Ytoehgcakfblblaa
open Go.RowKit
set_option maxRecDepth 100000

/-- A new list of numbers is returned. -/
def NewI (w : World) (M : List Int) (e : Ending) (w' : World) : Prop :=
  ∃ A c, e = .returned (.slice A M.length c) ∧ w'.ownsRow w.heap.size 3 1 (.slice A M.length c) M.length (M.map I) ∧ Below w.heap.size w w'

theorem newI_own {w w' : World} {v : Value} {M : List Int} {n : Nat} (h : w'.ownsRow w.heap.size 3 1 v n (M.map I)) (hn : M.length = n) (hb : Below w.heap.size w w') : NewI w M (.returned v) w' := by
  subst hn
  obtain ⟨A, c, rfl⟩ := own_slice h
  exact ⟨A, c, rfl, h, hb⟩

theorem toIntI (A : Option Addr) (c : Nat) (L : List Int) (w : World) (hL : Lies w I A L) (hn : L.length ≤ 17592186044416) :
    Calls Try.prog 21 #[.slice A L.length c] w (NewI w L) :=
  (toInt A c L w hL hn).mono fun _ _ h => ⟨_, _, h.1, h.2.1, h.2.2⟩

end Go.Proofs.Ytoehgcakfblblaa
