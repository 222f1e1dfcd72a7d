/- The program's field, at bytes: the number in a row of bits. -/
import Derived.Test.YtkjelakdejbolaaWid2
import Derived.Test.YtkjelakdejbolaaPackMath
import Derived.Test.YtkjelakdejbolaaMem2
import Derived.Test.YtkjelakdejbolaaField64
namespace Go.Proofs.Ytkjelakdejbolaa
open Go.RowKit
set_option maxRecDepth 100000

theorem byte_form (x r : Nat) (hx : x < 2 ^ 8) : IntKind.u64.wrap ((x : Int) / 2 ^ r) = (x : Int) / 2 ^ r := by
  have e : (x : Int) / 2 ^ r = ((x / 2 ^ r : Nat) : Int) := by simp
  have h : x / 2 ^ r ≤ x := Nat.div_le_self _ _
  rw [e]
  generalize x / 2 ^ r = y at *
  exact IntWalk.u64_in _ (by omega)
theorem run_shr_u8 {P : Program} (t : TypeId) (x r : Nat) (hr : r ≤ 8) (W : World) : (binOp .shr t (.int .u8 (x : Int)) (.int .i64 (r : Int))).run P W = .ok (.int .u8 ((x / 2 ^ r : Nat) : Int)) W := by
  have h : min r 8 = r := by omega
  simp [binOp, Op.shift, IntKind.bits, h]

end Go.Proofs.Ytkjelakdejbolaa
