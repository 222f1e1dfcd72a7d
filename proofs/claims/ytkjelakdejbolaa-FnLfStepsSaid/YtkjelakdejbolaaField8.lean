import Derived.Test.YtkjelakdejbolaaWid2
import Derived.Test.YtkjelakdejbolaaPackMath
import Derived.Test.YtkjelakdejbolaaMem2
/- The program's field, at words: the number in a row of bits. -/
namespace Go.Proofs.Ytkjelakdejbolaa
open Go.RowKit
set_option maxRecDepth 100000

/-- How the walk spells the round's or, and the last mask. -/
theorem field_form (m x r k : Nat) (hm : m < 2 ^ 64) (_hx : x < 2 ^ 64) : bits .or .u64 (m : Int) (IntKind.u64.wrap ((x : Int) / 2 ^ r * 2 ^ k)) = ((m ||| x / 2 ^ r * 2 ^ k % 2 ^ 64 : Nat) : Int) := by
  have e : (x : Int) / 2 ^ r * 2 ^ k = ((x / 2 ^ r * 2 ^ k : Nat) : Int) := by simp
  have hw : IntKind.u64.wrap ((x : Int) / 2 ^ r * 2 ^ k) = ((x / 2 ^ r * 2 ^ k % 2 ^ 64 : Nat) : Int) := by rw [e, IntKind.wrap_u64]; omega
  rw [hw, u64_or_nat m _ hm (Nat.mod_lt _ (by decide))]
theorem mask_form (m wd : Nat) (hm : m < 2 ^ 64) (hwd : wd ≤ 32) : wrap64 (bits .and .u64 (m : Int) (IntKind.u64.wrap (IntKind.u64.wrap (2 ^ wd) - 1))) = ((m % 2 ^ wd : Nat) : Int) := by
  have hp : 2 ^ wd ≤ 2 ^ 32 := Nat.pow_le_pow_right (by omega) hwd
  have hp0 := Nat.two_pow_pos wd
  have e1 : IntKind.u64.wrap ((2 : Int) ^ wd) = ((2 ^ wd : Nat) : Int) := by
    rw [show (2 : Int) ^ wd = ((2 ^ wd : Nat) : Int) by simp]
    exact IntWalk.u64_in _ (by omega)
  have e2 : IntKind.u64.wrap (((2 ^ wd : Nat) : Int) - 1) = ((2 ^ wd - 1 : Nat) : Int) := by
    rw [show ((2 ^ wd : Nat) : Int) - 1 = ((2 ^ wd - 1 : Nat) : Int) by omega]
    exact IntWalk.u64_in _ (by omega)
  have h3 : m % 2 ^ wd < 2 ^ wd := Nat.mod_lt _ hp0
  rw [e1, e2, u64_and_nat m _ hm (by omega), Nat.and_two_pow_sub_one_eq_mod]
  exact IntWalk.wrap64_in _ (by omega)

end Go.Proofs.Ytkjelakdejbolaa

/- The program's field, at bytes: the number in a row of bits. -/
namespace Go.Proofs.Ytkjelakdejbolaa
open Go.RowKit
set_option maxRecDepth 100000

theorem byte_form (x r : Nat) (hx : x < 2 ^ 8) : IntKind.u64.wrap ((x : Int) / 2 ^ r) = (x : Int) / 2 ^ r := by
  have e : (x : Int) / 2 ^ r = ((x / 2 ^ r : Nat) : Int) := by simp
  have h : x / 2 ^ r ≤ x := Nat.div_le_self _ _
  rw [e]
  generalize x / 2 ^ r = y at *
  exact IntWalk.u64_in _ (by omega)
theorem run_shr_u8 {P : Program} (t : TypeId) (x r : Nat) (hr : r ≤ 8) (W : World) : (binOp .shr t (.int .u8 (x : Int)) (.int .i64 (r : Int))).run P W = .ok (.int .u8 ((x / 2 ^ r : Nat) : Int)) W := by
  have h : min r 8 = r := by omega
  simp [binOp, Op.shift, IntKind.bits, h]

end Go.Proofs.Ytkjelakdejbolaa
