/- Contracts of the laws' own copies and comparisons of bit vectors. -/
import Derived.Test.YtoehgcakfblblaaLaws1
import Derived.Test.YtoehgcakfblblaaLaws2
import Derived.Test.YtoehgcakfblblaaLaws3
namespace Go.Proofs.Ytoehgcakfblblaa
open Go.RowKit
set_option maxRecDepth 100000

set_option maxHeartbeats 400000 in
theorem szBits_any (N : Int) (A : Option Addr) (n c : Nat) (left : Int) (w : World) (hn : n ≤ 9223372036854775807) (h0 : 0 ≤ left) (h1 : left ≤ 1048576) :
    Calls Try.prog 48 #[.agg #[.int .i64 N, .slice A n c], .int .i64 left] w fun e w' => e = .returned (.int .i64 (if left < n then -1 else left - n)) ∧ Below w.heap.size w w' := by
  by_cases h : left < (n : Int)
  · have c1 := fun W => szU64 A n c left W hn h0 h1
    rw [if_pos h]
    simp only [if_pos h] at c1
    have C := Lib.hid c1
    clear c1
    go_enter Try.func48, Try.ntmps48
    go_wp2_with (go_at_call 94; refine (C.out _).mono ?_; rintro e w' ⟨rfl, rfl⟩)
    go_ret
    exact ⟨rfl, (Below.refl _ _).alloc (Nat.le_refl _) _⟩
  · have c1 := fun W => szU64 A n c left W hn h0 h1
    rw [if_neg h]
    simp only [if_neg h] at c1
    have C := Lib.hid c1
    clear c1
    go_enter Try.func48, Try.ntmps48
    go_wp2_with (go_at_call 94; refine (C.out _).mono ?_; rintro e w' ⟨rfl, rfl⟩)
    go_ret
    exact ⟨rfl, (Below.refl _ _).alloc (Nat.le_refl _) _⟩

end Go.Proofs.Ytoehgcakfblblaa
