/- Pieces of other texts that the door seat's program has: isBit, the program's BitsFlip, the laws' copies and comparisons. -/
import Derived.Test.YtoehgcakfblblaaFlip1
import Derived.Test.YtoehgcakfblblaaFlipMath
import Derived.Test.YtoehgcakfblblaaNewB
import Derived.Test.YtoehgcakfblblaaImpl2
import Derived.Test.YtoehgcakfblblaaLaws4
import Derived.Test.YtoehgcakfblblaaLaws5
namespace Go.Proofs.Ytoehgcakfblblaa
open Go.RowKit
set_option maxRecDepth 100000

set_option maxHeartbeats 400000 in
theorem isBit_sel (b : Int) (w : World) :
    Calls Try.prog 111 #[.int .i64 b] w fun e w' => e = .returned (.bool (decide (b = 0 ∨ b = 1))) ∧ w = w' := by
  by_cases h0 : b = 0
  · subst h0
    go_enter Try.func111, Try.ntmps111
    go_wp2
    go_ret
    exact ⟨rfl, rfl⟩
  · have t0 : (b == 0) = false := by rw [beq_eq_false_iff_ne]; exact h0
    by_cases h1 : b = 1
    · subst h1
      go_enter Try.func111, Try.ntmps111
      go_wp2
      go_ret
      exact ⟨rfl, rfl⟩
    · have t1 : (b == 1) = false := by rw [beq_eq_false_iff_ne]; exact h1
      have HF := Lib.hid (decide_eq_false (show ¬ (b = 0 ∨ b = 1) by omega))
      clear h0 h1
      go_enter Try.func111, Try.ntmps111
      go_wp2
      go_ret
      exact ⟨ret_bool HF.out.symm, rfl⟩

theorem toBits_new (N : Int) (A : Option Addr) (c : Nat) (L : List Nat) (w : World) (hL : Lies w U A L) (hn : L.length ≤ 17592186044416) :
    Calls Try.prog 50 #[.agg #[.int .i64 N, .slice A L.length c]] w (NewBits1 w N L) :=
  (toBits_any N A c L w hL hn).mono fun _ _ h => ⟨_, _, h.1, h.2.1, h.2.2⟩

theorem eqBits_true (N : Int) (A B : Option Addr) (c d : Nat) (L : List Nat) (w : World) (hL : Lies w U A L) (hK : Lies w U B L) (hn : L.length ≤ 17592186044416) :
    Calls Try.prog 45 #[.agg #[.int .i64 N, .slice A L.length c], .agg #[.int .i64 N, .slice B L.length d]] w fun e w' => e = .returned (.bool true) ∧ Below w.heap.size w w' :=
  (eqBits_any N N A B c d L L w hL hK hn).mono fun _ _ h => ⟨by rw [h.1, decide_eq_true ⟨rfl, rfl⟩], h.2⟩

end Go.Proofs.Ytoehgcakfblblaa
