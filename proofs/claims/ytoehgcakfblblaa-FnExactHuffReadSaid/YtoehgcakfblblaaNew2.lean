/- The laws' copies and comparisons in the form that lawgen.py uses. -/
import Derived.Test.YtoehgcakfblblaaLaws4
import Derived.Test.YtoehgcakfblblaaLaws5
import Derived.Test.YtoehgcakfblblaaInts2
import Derived.Test.YtoehgcakfblblaaWords1
import Derived.Test.YtoehgcakfblblaaNewB
import Derived.Test.YtoehgcakfblblaaList2
import Derived.Test.YtoehgcakfblblaaAppend2
namespace Go.Proofs.Ytoehgcakfblblaa
open Go.RowKit
set_option maxRecDepth 100000

theorem toBits_new (N : Int) (A : Option Addr) (c : Nat) (L : List Nat) (w : World) (hL : Lies w U A L) (hn : L.length ≤ 17592186044416) :
    Calls Try.prog 50 #[.agg #[.int .i64 N, .slice A L.length c]] w (NewBits1 w N L) :=
  (toBits_any N A c L w hL hn).mono fun _ _ h => ⟨_, _, h.1, h.2.1, h.2.2⟩

/-- A new list of numbers is returned. -/
def NewInts2 (w : World) (M : List Int) (e : Ending) (w' : World) : Prop :=
  ∃ A c, e = .returned (.slice A M.length c) ∧ w'.ownsRow w.heap.size 3 1 (.slice A M.length c) M.length (M.map I) ∧ Below w.heap.size w w'
theorem NewInts.two {w : World} {M : List Int} {e : Ending} {w' : World} (h : NewInts w M e w') : NewInts2 w M e w' := by
  obtain ⟨v, he, ho, hb⟩ := h
  obtain ⟨A, c, rfl⟩ := own_slice ho
  exact ⟨A, c, he, ho, hb⟩
theorem toInt_new (A : Option Addr) (c : Nat) (L : List Int) (w : World) (hL : Lies w I A L) (hn : L.length ≤ 17592186044416) :
    Calls Try.prog 21 #[.slice A L.length c] w (NewInts2 w L) :=
  (toInt A c L w hL hn).mono fun _ _ h => ⟨_, _, h.1, h.2.1, h.2.2⟩
theorem eqBits_true (N : Int) (A B : Option Addr) (c d : Nat) (L : List Nat) (w : World) (hL : Lies w U A L) (hK : Lies w U B L) (hn : L.length ≤ 17592186044416) :
    Calls Try.prog 45 #[.agg #[.int .i64 N, .slice A L.length c], .agg #[.int .i64 N, .slice B L.length d]] w fun e w' => e = .returned (.bool true) ∧ Below w.heap.size w w' :=
  (eqBits_any N N A B c d L L w hL hK hn).mono fun _ _ h => ⟨by rw [h.1, decide_eq_true ⟨rfl, rfl⟩], h.2⟩

end Go.Proofs.Ytoehgcakfblblaa
