/- The program's remainders and highList. -/
import Derived.Test.YtlbnngolcoefdaaSp1
import Derived.Test.YtlbnngolcoefdaaNewI
namespace Go.Proofs.Ytlbnngolcoefdaa
open Go.RowKit
set_option maxRecDepth 100000

/-- The remainders of the numbers. -/
def rems (wd : Nat) (B : List Int) : List Int := B.map fun x => x % 2 ^ wd

theorem pow_int (wd : Nat) : ((2 ^ wd : Nat) : Int) = (2 : Int) ^ wd := by simp
theorem mod_int (x wd : Nat) : (x : Int) % 2 ^ wd = ((x % 2 ^ wd : Nat) : Int) := by rw [← pow_int]; simp
theorem div_int (x wd : Nat) : (x : Int) / 2 ^ wd = ((x / 2 ^ wd : Nat) : Int) := by rw [← pow_int]; simp

theorem mask64 (x wd : Nat) (hx : x < 2 ^ 62) (hwd : wd ≤ 32) : bits .and .i64 (x : Int) (wrap64 (wrap64 (2 ^ wd) - 1)) = ((x % 2 ^ wd : Nat) : Int) := by
  have hp : 2 ^ wd ≤ 2 ^ 32 := Nat.pow_le_pow_right (by omega) hwd
  have hp0 := Nat.two_pow_pos wd
  have e1 : wrap64 ((2 : Int) ^ wd) = ((2 ^ wd : Nat) : Int) := by
    rw [← pow_int]
    exact IntWalk.wrap64_in _ (by omega)
  have e2 : wrap64 (((2 ^ wd : Nat) : Int) - 1) = ((2 ^ wd - 1 : Nat) : Int) := by
    rw [show ((2 ^ wd : Nat) : Int) - 1 = ((2 ^ wd - 1 : Nat) : Int) by omega]
    exact IntWalk.wrap64_in _ (by omega)
  have h3 : x % 2 ^ wd < 2 ^ wd := Nat.mod_lt _ hp0
  rw [e1, e2]
  show IntKind.i64.wrap ((x % 2 ^ 64 &&& (2 ^ wd - 1) % 2 ^ 64 : Nat) : Int) = _
  rw [Nat.mod_eq_of_lt (show x < 2 ^ 64 by omega), Nat.mod_eq_of_lt (show 2 ^ wd - 1 < 2 ^ 64 by omega), Nat.and_two_pow_sub_one_eq_mod]
  exact IntWalk.i64_in _ (by omega)

end Go.Proofs.Ytlbnngolcoefdaa
