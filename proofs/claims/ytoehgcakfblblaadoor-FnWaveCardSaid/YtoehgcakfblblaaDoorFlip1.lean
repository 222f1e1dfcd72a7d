/- The program's word methods flip and trim. -/
import Derived.Test.YtoehgcakfblblaaDoorImpl2
import Derived.Test.YtoehgcakfblblaaDoorWvMath2
import Derived.Test.YtoehgcakfblblaaDoorDraw3
namespace Go.Proofs.YtoehgcakfblblaaDoor
open Go.RowKit
set_option maxRecDepth 100000

theorem xor_ones (x : Nat) (hx : x < 2 ^ 64) : 18446744073709551615 ^^^ x = 18446744073709551615 - x := by
  have h : BitVec.allOnes 64 ^^^ BitVec.ofNat 64 x = ~~~ (BitVec.ofNat 64 x) := by
    apply BitVec.eq_of_getLsbD_eq
    intro i hi
    rw [BitVec.getLsbD_xor, BitVec.getLsbD_not, BitVec.getLsbD_allOnes]
    cases (BitVec.ofNat 64 x).getLsbD i <;> simp only [hi, decide_true] <;> rfl
  have h2 := congrArg BitVec.toNat h
  rw [BitVec.toNat_xor, BitVec.toNat_not, BitVec.toNat_allOnes, BitVec.toNat_ofNat, Nat.mod_eq_of_lt hx] at h2
  exact h2

theorem flip_form (x : Nat) (hx : x < 2 ^ 64) : bits .xor .u64 IntKind.u64.max (x : Int) = ((18446744073709551615 - x : Nat) : Int) := by
  have h := u64_xor_nat 18446744073709551615 x (by decide) hx
  rw [xor_ones x hx] at h
  exact h

theorem trim_form (x n : Nat) (hx : x < 2 ^ 64) (hn : n ≤ 64) : bits .and .u64 (x : Int) (IntKind.u64.wrap (IntKind.u64.wrap (2 ^ n) - 1)) = ((x % 2 ^ n : Nat) : Int) := by
  have hp : 0 < 2 ^ n := Nat.two_pow_pos n
  have hle : 2 ^ n ≤ 2 ^ 64 := Nat.pow_le_pow_right (by omega) hn
  have e : (2 : Int) ^ n = ((2 ^ n : Nat) : Int) := by simp
  have hm : IntKind.u64.wrap (IntKind.u64.wrap (2 ^ n) - 1) = ((2 ^ n - 1 : Nat) : Int) := by
    rw [e, IntKind.wrap_u64, IntKind.wrap_u64]
    generalize 2 ^ n = p at *
    omega
  rw [hm, u64_and_nat x (2 ^ n - 1) hx (by omega), Nat.and_two_pow_sub_one_eq_mod]

set_option maxHeartbeats 400000 in
theorem wordFlip_any (g : Nat) (x : Nat) (w : World) (hc : w.cell? ⟨g, 0, none⟩ = some (U x)) (hf : w.frozen? ⟨g, 0, none⟩ = false) (hx : x < 2 ^ 64) :
    Calls Tryd.prog 55 #[.pointer (some ⟨g, 0, none⟩)] w fun e w' => e = .returned (.tuple #[]) ∧ w.setCell ⟨g, 0, none⟩ (U (18446744073709551615 - x)) = w' := by
  have HF := Lib.hid (flip_form x hx)
  go_enter Tryd.func55, Tryd.ntmps55
  go_wp2
  go_end0
  exact ⟨rfl, by rw [HF.out]⟩

set_option maxHeartbeats 400000 in
theorem wordTrim_any (g : Nat) (x n : Nat) (w : World) (hc : w.cell? ⟨g, 0, none⟩ = some (U x)) (hf : w.frozen? ⟨g, 0, none⟩ = false) (hx : x < 2 ^ 64) (hn : n ≤ 64) :
    Calls Tryd.prog 48 #[.pointer (some ⟨g, 0, none⟩), .int .i64 n] w fun e w' => e = .returned (.tuple #[]) ∧ (w.setCell ⟨g, 0, none⟩ (U (x % 2 ^ n))).drew = w' := by
  have HF := Lib.hid (trim_form x n hx hn)
  go_enter Tryd.func48, Tryd.ntmps48
  go_wp2
  go_still_tail 8, (by kernel_rfl)
  change wpList _ _ _ _ _ w.drew
  go_wp2
  go_end0
  exact ⟨rfl, by rw [HF.out]⟩

end Go.Proofs.YtoehgcakfblblaaDoor
