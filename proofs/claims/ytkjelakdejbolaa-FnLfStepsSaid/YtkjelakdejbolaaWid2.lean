/- WidthOf, the specification's and the program's, and its law. -/
import Derived.Test.YtkjelakdejbolaaWid1
namespace Go.Proofs.Ytkjelakdejbolaa
open Go.RowKit
set_option maxRecDepth 100000

set_option maxHeartbeats 400000 in
theorem len_any (x : Nat) (w : World) (hx : x < 2 ^ 64) :
    Calls Try.prog 64 #[U x] w fun e w' => e = .returned (.int .i64 (Lib.bitLen x)) ∧ w = w' := by
  have C : ∀ W : World, Calls Try.prog 75 #[U x] W fun e w' => e = .returned (.int .i64 (Lib.bitLen x)) ∧ W = w' := fun W => len64_any x W hx
  have HC := Lib.hid C
  clear C
  go_enter Try.func64, Try.ntmps64
  go_wp2_with (go_at_call 75; refine (HC.out _).mono ?_; rintro e w' ⟨rfl, rfl⟩)
  go_ret
  exact ⟨rfl, rfl⟩

end Go.Proofs.Ytkjelakdejbolaa
