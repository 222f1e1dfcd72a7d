/- More words of my own: operations on words. Nothing of the program stands here. -/
import Derived.Test.YtoehgcakfblblaaMem
import Derived.Deep.RegionWith
import Derived.Deep.RegionHeld3
namespace Go.Proofs.Ytoehgcakfblblaa
open Go.RowKit

theorem run_and_u64 {P : Program} (t : TypeId) (a b : Nat) (ha : a < 2 ^ 64) (hb : b < 2 ^ 64) (W : World) : (binOp .and t (.int .u64 (a : Int)) (.int .u64 (b : Int))).run P W = .ok (.int .u64 ((a &&& b : Nat) : Int)) W := by
  have h : a &&& b < 2 ^ 64 := Nat.and_lt_two_pow _ hb
  simp [binOp, Op.intBits]
  show IntKind.u64.wrap ((a % 2 ^ 64 &&& b % 2 ^ 64 : Nat) : Int) = _
  rw [Nat.mod_eq_of_lt ha, Nat.mod_eq_of_lt hb]
  exact IntWalk.u64_in _ (by omega)
theorem run_and1_u64 {P : Program} (t : TypeId) (a : Nat) (ha : a < 2 ^ 64) (W : World) : (binOp .and t (.int .u64 (a : Int)) (.int .u64 1)).run P W = .ok (.int .u64 ((a % 2 : Nat) : Int)) W := by
  have h := run_and_u64 (P := P) t a 1 ha (by decide) W
  rw [nat_mask1] at h
  exact h
theorem run_or_u64 {P : Program} (t : TypeId) (a b : Nat) (ha : a < 2 ^ 64) (hb : b < 2 ^ 64) (W : World) : (binOp .or t (.int .u64 (a : Int)) (.int .u64 (b : Int))).run P W = .ok (.int .u64 ((a ||| b : Nat) : Int)) W := by
  have h : a ||| b < 2 ^ 64 := Nat.or_lt_two_pow ha hb
  simp [binOp, Op.intBits]
  show IntKind.u64.wrap ((a % 2 ^ 64 ||| b % 2 ^ 64 : Nat) : Int) = _
  rw [Nat.mod_eq_of_lt ha, Nat.mod_eq_of_lt hb]
  exact IntWalk.u64_in _ (by omega)

end Go.Proofs.Ytoehgcakfblblaa
