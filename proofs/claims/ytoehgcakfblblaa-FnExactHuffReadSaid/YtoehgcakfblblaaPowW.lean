/- The powers of two of the specification (as in Pk8, for texts that need no more). -/
import Derived.Test.YtoehgcakfblblaaSpec4
namespace Go.Proofs.Ytoehgcakfblblaa
open Go.RowKit
set_option maxRecDepth 100000

set_option maxHeartbeats 400000 in
theorem powW_any (i : Nat) (w : World) (hi : i < 62) :
    Calls Try.prog 64 #[.int .i64 i] w fun e w' => e = .returned (.int .i64 (2 ^ i : Nat)) ∧ w = w' := by
  go_enter Try.func64, Try.ntmps64
  go_wp2
  go_loop [0, 3] (fun v x => ∃ j p : Nat, j ≤ i ∧ v = .int .i64 j ∧ x = .int .i64 p ∧ Hid (p * 2 ^ j = 2 ^ i)) (fun v _ => (intOf v).toNat)
  case atStart => exact ⟨i, 1, Nat.le_refl _, rfl, rfl, Lib.hid (by omega)⟩
  case round =>
    obtain ⟨j, p, hj, rfl, rfl, hp⟩ := hrel
    rcases Nat.eq_zero_or_pos j with h0 | h0
    · subst h0
      go_wp2
      go_ret
      exact ⟨ret_int (by have h := hp.out; rw [Nat.pow_zero, Nat.mul_one] at h; rw [h]; simp), rfl⟩
    · obtain ⟨j, rfl⟩ : ∃ j', j = j' + 1 := ⟨j - 1, by omega⟩
      have hb : p < 4611686018427387904 := by
        have h1 : 2 ^ i ≤ 2 ^ 61 := Nat.pow_le_pow_right (by omega) (by omega)
        have h2 : 1 ≤ 2 ^ (j + 1) := Nat.two_pow_pos _
        have h3 := Nat.mul_le_mul_left p h2
        rw [hp.out] at h3
        omega
      go_wp2
      go_round
      case rel => exact ⟨j, 2 * p, by omega, by go_num, by go_num, Lib.hid (by rw [← hp.out, Nat.pow_succ, Nat.mul_comm 2 p, Nat.mul_assoc, Nat.mul_comm 2])⟩
      case measure => simp [intOf]

end Go.Proofs.Ytoehgcakfblblaa
