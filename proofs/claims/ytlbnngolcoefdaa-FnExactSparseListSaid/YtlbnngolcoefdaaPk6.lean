/- The program's putField. -/
import Derived.Test.YtlbnngolcoefdaaSelMath2
import Derived.Test.YtlbnngolcoefdaaMem3
import Derived.Test.YtlbnngolcoefdaaProg
import Derived.StillTailTactics
namespace Go.Proofs.Ytlbnngolcoefdaa
open Go.RowKit
set_option maxRecDepth 100000

theorem lay_or (y x s : Nat) (hy : y < 2 ^ 64) : bits .or .u64 (y : Int) (IntKind.u64.wrap ((x : Int) * 2 ^ s)) = ((y ||| x * 2 ^ s % 2 ^ 64 : Nat) : Int) := by
  have e : (x : Int) * 2 ^ s = ((x * 2 ^ s : Nat) : Int) := by simp
  have hw : IntKind.u64.wrap ((x : Int) * 2 ^ s) = ((x * 2 ^ s % 2 ^ 64 : Nat) : Int) := by rw [e, IntKind.wrap_u64]; omega
  rw [hw, u64_or_nat y _ hy (Nat.mod_lt _ (by decide))]
theorem lay_or0 (x r : Nat) (hx : x < 2 ^ 64) : bits .or .u64 0 ((x : Int) / 2 ^ r) = ((x / 2 ^ r : Nat) : Int) := by
  have e : (x : Int) / 2 ^ r = ((x / 2 ^ r : Nat) : Int) := by simp
  have h := u64_or_nat 0 (x / 2 ^ r) (by decide) (Nat.lt_of_le_of_lt (Nat.div_le_self _ _) hx)
  rw [Nat.zero_or] at h
  rw [e]
  exact h
theorem lay_shr (x s : Nat) (hs : s ≤ 64) : x * 2 ^ s / 2 ^ 64 = x / 2 ^ (64 - s) := by
  rw [show 2 ^ 64 = 2 ^ (64 - s) * 2 ^ s by rw [← Nat.pow_add, show 64 - s + s = 64 by omega], Nat.mul_div_mul_right _ _ (Nat.two_pow_pos _)]
theorem lay_set (D : List Nat) (i v : Nat) : (D.map U).toArray.setIfInBounds i (U v) = ((D.set i v).map U).toArray := by
  simp [List.map_set]

/-- The words of block S are the digits of a number, and nothing below it is touched. -/
def Laid (W : World) (S T v : Nat) (w' : World) : Prop := Box w' S 106 ((digits T v).map U).toArray ∧ Below S W w'

end Go.Proofs.Ytlbnngolcoefdaa
