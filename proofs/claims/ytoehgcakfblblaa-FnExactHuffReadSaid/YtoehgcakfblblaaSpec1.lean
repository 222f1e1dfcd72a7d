/- Contracts of the specification's bit vectors. -/
import Derived.Test.YtoehgcakfblblaaBitMath
import Derived.Test.YtoehgcakfblblaaLaws2
import Derived.Test.YtoehgcakfblblaaLaws3
namespace Go.Proofs.Ytoehgcakfblblaa
open Go.RowKit
set_option maxRecDepth 100000

theorem pow_lt64 {k : Nat} (h : k < 64) : 2 ^ k < 2 ^ 64 := Nat.pow_lt_pow_right (by omega) h
theorem half_lt {p j i : Nat} (h : p * 2 ^ j = 2 ^ i) (hj : 0 < j) (hi : i < 64) : p < 9223372036854775808 := by
  have h1 : 2 ^ i ≤ 2 ^ 63 := Nat.pow_le_pow_right (by omega) (by omega)
  have h2 : 2 ^ 1 ≤ 2 ^ j := Nat.pow_le_pow_right (by omega) hj
  rcases Nat.lt_or_ge p 9223372036854775808 with h3 | h3
  · exact h3
  · have := Nat.mul_le_mul h3 h2
    omega

set_option maxHeartbeats 400000 in
theorem power_any (i : Nat) (w : World) (hi : i < 64) :
    Calls Try.prog 107 #[.int .i64 i] w fun e w' => e = .returned (U (2 ^ i)) ∧ w = w' := by
  go_enter Try.func107, Try.ntmps107
  go_wp2
  go_loop [0, 3] (fun v x => ∃ j p : Nat, j ≤ i ∧ v = .int .i64 j ∧ x = .int .u64 p ∧ Hid (p * 2 ^ j = 2 ^ i)) (fun v _ => (intOf v).toNat)
  case atStart => exact ⟨i, 1, Nat.le_refl _, rfl, rfl, Lib.hid (by omega)⟩
  case round =>
    obtain ⟨j, p, hj, rfl, rfl, hp⟩ := hrel
    rcases Nat.eq_zero_or_pos j with h0 | h0
    · subst h0
      go_wp2
      go_ret
      exact ⟨ret_int (by rw [← hp.out]; omega), rfl⟩
    · obtain ⟨j, rfl⟩ : ∃ j', j = j' + 1 := ⟨j - 1, by omega⟩
      have hb : p < 9223372036854775808 := half_lt hp.out (by omega) hi
      go_wp2
      go_round
      case rel => exact ⟨j, 2 * p, by omega, by go_num, by go_num, Lib.hid (by rw [← hp.out, Nat.pow_succ, Nat.mul_comm 2 p, Nat.mul_assoc, Nat.mul_comm 2])⟩
      case measure => simp [intOf]

end Go.Proofs.Ytoehgcakfblblaa
