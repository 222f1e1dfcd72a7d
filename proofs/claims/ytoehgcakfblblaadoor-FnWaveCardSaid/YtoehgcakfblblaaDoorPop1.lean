/- The library's count of the bits 1 of a word, and the program's method over it. -/
import Derived.Test.YtoehgcakfblblaaDoorWvMath2
import Derived.Test.YtoehgcakfblblaaDoorImpl2
import Derived.Test.YtoehgcakfblblaaDoorDraw3
namespace Go.Proofs.YtoehgcakfblblaaDoor
open Go.RowKit
set_option maxRecDepth 100000

theorem and_lit (a m : Nat) (ha : a < 2 ^ 64) (hm : m < 2 ^ 64) (c : Nat) (hc : a &&& m = c) : bits .and .u64 (a : Int) (m : Int) = (c : Int) := by rw [u64_and_nat a m ha hm, hc]
theorem and_127 (a : Nat) (ha : a < 4611686018427387904) : bits .and .i64 (a : Int) 127 = ((a % 128 : Nat) : Int) := by
  have e : (BitVec.ofInt 64 (a : Int)).toNat = a := by rw [BitVec.ofInt_natCast, BitVec.toNat_ofNat]; exact Nat.mod_eq_of_lt (by omega)
  have e2 : (BitVec.ofInt 64 127).toNat = 127 := by decide
  have e3 : a &&& 127 = a % 128 := Nat.and_two_pow_sub_one_eq_mod a 7
  show IntKind.i64.wrap ((BitVec.ofInt 64 (a : Int) &&& BitVec.ofInt 64 127).toNat : Int) = _
  rw [BitVec.toNat_and, e, e2, e3]
  exact IntWalk.i64_in _ (by omega)
theorem sum_lit (a b c : Nat) (hc : a + b = c) (hl : c < 2 ^ 64) : IntKind.u64.wrap ((a : Int) + (b : Int)) = (c : Int) := by
  rw [show (a : Int) + (b : Int) = (c : Int) by omega]
  exact IntWalk.u64_in _ (by omega)

set_option maxHeartbeats 400000 in
theorem onesCount_core (x a1 b1 y1 a2 b2 y2 t3 y3 y4 y5 y6 r : Nat) (w : World)
    (r1 : bits .and .u64 ((x : Int) / 2) 6148914691236517205 = (a1 : Int)) (r2 : bits .and .u64 (x : Int) 6148914691236517205 = (b1 : Int)) (s1 : IntKind.u64.wrap ((a1 : Int) + (b1 : Int)) = (y1 : Int))
    (r3 : bits .and .u64 ((y1 : Int) / 4) 3689348814741910323 = (a2 : Int)) (r4 : bits .and .u64 (y1 : Int) 3689348814741910323 = (b2 : Int)) (s2 : IntKind.u64.wrap ((a2 : Int) + (b2 : Int)) = (y2 : Int))
    (s3 : IntKind.u64.wrap ((y2 : Int) / 16 + (y2 : Int)) = (t3 : Int)) (r5 : bits .and .u64 (t3 : Int) 1085102592571150095 = (y3 : Int))
    (s4 : IntKind.u64.wrap ((y3 : Int) + (y3 : Int) / 256) = (y4 : Int)) (s5 : IntKind.u64.wrap ((y4 : Int) + (y4 : Int) / 65536) = (y5 : Int)) (s6 : IntKind.u64.wrap ((y5 : Int) + (y5 : Int) / 4294967296) = (y6 : Int))
    (hy : y6 < 4611686018427387904) (hr : y6 % 128 = r) :
    Calls Tryd.prog 52 #[U x] w fun e w' => e = .returned (.int .i64 r) ∧ w = w' := by
  have HR := Lib.hid hr
  clear hr
  go_enter Tryd.func52, Tryd.ntmps52
  go_wp2
  go_ret
  exact ⟨ret_int (by rw [and_127 y6 hy, HR.out]), rfl⟩

theorem onesCount_any (x : Nat) (w : World) (hx : x < 2 ^ 64) :
    Calls Tryd.prog 52 #[U x] w fun e w' => e = .returned (.int .i64 (popN 64 x)) ∧ w = w' := by
  have h1 := par1_le x
  have h2 := par2_le x
  have h3 := par3_le x
  have d1 : ((x : Int) / 2) = ((x / 2 : Nat) : Int) := by omega
  have d2 : ((par1 x : Int) / 4) = ((par1 x / 4 : Nat) : Int) := by omega
  have hor : par2 (par1 x) / 16 + par2 (par1 x) < 2 ^ 64 := by omega
  have e3 : (par2 (par1 x) / 16 + par2 (par1 x)) &&& 1085102592571150095 = par3 (par2 (par1 x)) := rfl
  have u8 : up8 (par3 (par2 (par1 x))) ≤ 2 * 578721382704613384 := by unfold up8; omega
  have u16 : up16 (up8 (par3 (par2 (par1 x)))) ≤ 3 * 578721382704613384 := by unfold up16; omega
  have u32 : up32 (up16 (up8 (par3 (par2 (par1 x))))) ≤ 4 * 578721382704613384 := by unfold up32; omega
  refine onesCount_core x (x / 2 &&& 6148914691236517205) (x &&& 6148914691236517205) (par1 x) (par1 x / 4 &&& 3689348814741910323) (par1 x &&& 3689348814741910323) (par2 (par1 x)) (par2 (par1 x) / 16 + par2 (par1 x)) (par3 (par2 (par1 x))) (up8 (par3 (par2 (par1 x)))) (up16 (up8 (par3 (par2 (par1 x))))) (up32 (up16 (up8 (par3 (par2 (par1 x)))))) (popN 64 x) w ?_ ?_ ?_ ?_ ?_ ?_ ?_ ?_ ?_ ?_ ?_ (by omega) (ones_count x)
  · rw [d1]; exact and_lit _ 6148914691236517205 (by omega) (by decide) _ rfl
  · exact and_lit _ 6148914691236517205 hx (by decide) _ rfl
  · exact sum_lit _ _ _ rfl (by omega)
  · rw [d2]; exact and_lit _ 3689348814741910323 (by omega) (by decide) _ rfl
  · exact and_lit _ 3689348814741910323 (by omega) (by decide) _ rfl
  · exact sum_lit _ _ _ rfl (by omega)
  · rw [show ((par2 (par1 x) : Int) / 16) = ((par2 (par1 x) / 16 : Nat) : Int) by omega]; exact sum_lit _ _ _ rfl (by omega)
  · exact and_lit _ 1085102592571150095 hor (by decide) _ e3
  · rw [show ((par3 (par2 (par1 x)) : Int) / 256) = ((par3 (par2 (par1 x)) / 256 : Nat) : Int) by omega]; exact sum_lit _ _ _ rfl (by omega)
  · rw [show ((up8 (par3 (par2 (par1 x))) : Int) / 65536) = ((up8 (par3 (par2 (par1 x))) / 65536 : Nat) : Int) by omega]; exact sum_lit _ _ _ rfl (by omega)
  · rw [show ((up16 (up8 (par3 (par2 (par1 x)))) : Int) / 4294967296) = ((up16 (up8 (par3 (par2 (par1 x)))) / 4294967296 : Nat) : Int) by omega]; exact sum_lit _ _ _ rfl (by omega)

set_option maxHeartbeats 400000 in
theorem wordOnes_any (g : Nat) (x : Nat) (w : World) (hc : w.cell? ⟨g, 0, none⟩ = some (U x)) (hx : x < 2 ^ 64) :
    Calls Tryd.prog 49 #[.pointer (some ⟨g, 0, none⟩)] w fun e w' => e = .returned (.int .i64 (popN 64 x)) ∧ w = w' := by
  have C := Lib.hid (fun W => onesCount_any x W hx)
  go_enter Tryd.func49, Tryd.ntmps49
  go_wp2_with fail
  refine (C.out _).mono ?_
  rintro e w1 ⟨rfl, rfl⟩
  go_wp2
  go_ret
  exact ⟨rfl, rfl⟩

end Go.Proofs.YtoehgcakfblblaaDoor
