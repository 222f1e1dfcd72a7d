/- WidthOf, the specification's and the program's, and its law. -/
import Derived.Test.YtlgnndfhpnbhmaaWid1
namespace Go.Proofs.Ytlgnndfhpnbhmaa
open Go.RowKit
set_option maxRecDepth 100000

set_option maxHeartbeats 400000 in
theorem len_any (x : Nat) (w : World) (hx : x < 2 ^ 64) :
    Calls Try.prog 65 #[U x] w fun e w' => e = .returned (.int .i64 (Lib.bitLen x)) ∧ w = w' := by
  have C : ∀ W : World, Calls Try.prog 80 #[U x] W fun e w' => e = .returned (.int .i64 (Lib.bitLen x)) ∧ W = w' := fun W => len64_any x W hx
  have HC := Lib.hid C
  clear C
  go_enter Try.func65, Try.ntmps65
  go_wp2_with (go_at_call 80; refine (HC.out _).mono ?_; rintro e w' ⟨rfl, rfl⟩)
  go_ret
  exact ⟨rfl, rfl⟩

end Go.Proofs.Ytlgnndfhpnbhmaa
