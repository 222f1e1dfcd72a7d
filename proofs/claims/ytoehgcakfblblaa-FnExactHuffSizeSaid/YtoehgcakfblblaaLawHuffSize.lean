/- The law FnExactHuffSize walked (written by lawgen6.py). -/
import Derived.Test.YtoehgcakfblblaaHf2
import Derived.Test.YtoehgcakfblblaaScene4
namespace Go.Proofs.Ytoehgcakfblblaa
open Go.RowKit

set_option maxHeartbeats 1600000 in
theorem lawHuffSize (A0 : Option Addr) (c0 : Nat) (L0 : List Int) (A1 : Option Addr) (c1 : Nat) (L1 : List Int) (w : World) (hL0 : Lies w I A0 L0) (hL1 : Lies w I A1 L1) (hbig0 : L0.length ≤ 1048576) (hbig1 : L1.length ≤ 1048576) :
    Calls Try.prog 11 #[.slice A0 L0.length c0, .slice A1 L1.length c1] w fun e w' => e = .returned (.bool true) ∧ Below w.heap.size w w' := by
  have HL0 := Lib.hid hL0
  clear hL0
  have HL1 := Lib.hid hL1
  clear hL1
  go_enter Try.func11, Try.ntmps11
  have sc : Scene w w [] := Scene.start w
  have hnd0 : decide ((1048576 : Int) < (L0.length : Int)) = false := by simp; omega
  have hnd1 : decide ((1048576 : Int) < (L1.length : Int)) = false := by simp; omega
  go_wp2_with fail
  refine (toIntI A0 c0 L0 _ (sc.liesOld HL0.out) (by omega)).mono ?_
  rintro e w1 ⟨Ap0, cp0, rfl, ho, hb⟩
  replace sc := sc.row hb ho
  clear hb ho
  go_wp2_with fail
  refine (toIntI A1 c1 L1 _ (sc.liesOld HL1.out) (by omega)).mono ?_
  rintro e w2 ⟨Ap1, cp1, rfl, ho, hb⟩
  replace sc := sc.row hb ho
  clear hb ho
  go_wp2_with fail
  refine (specHuffSize_any _ _ _ _ L0 L1 _ (by exact sc.lies 1 rfl) (by exact sc.lies 0 rfl) (by omega)).mono ?_
  rintro e w3 ⟨rfl, hb⟩
  replace sc := sc.step hb
  clear hb
  clear hnd0 hnd1
  go_wp2_with fail
  refine (toIntI A0 c0 L0 _ (sc.liesOld HL0.out) (by omega)).mono ?_
  rintro e w4 ⟨Ax0, cx0, rfl, ho, hb⟩
  replace sc := sc.row hb ho
  clear hb ho
  go_wp2_with fail
  refine (toIntI A1 c1 L1 _ (sc.liesOld HL1.out) (by omega)).mono ?_
  rintro e w5 ⟨Ax1, cx1, rfl, ho, hb⟩
  replace sc := sc.row hb ho
  clear hb ho
  go_wp2_with fail
  refine (implHuffSize_any _ _ _ _ L0 L1 _ (by exact sc.lies 1 rfl) (by exact sc.lies 0 rfl) (by omega)).mono ?_
  rintro e w6 ⟨rfl, hb⟩
  replace sc := sc.step hb
  clear hb
  have t0G6 : (hsize L0 L1 != hsize L0 L1) = false := by simp
  go_wp2_with fail
  refine (toIntI A0 c0 L0 _ (sc.liesOld HL0.out) (by omega)).mono ?_
  rintro e w7 ⟨Ay0, cy0, rfl, ho, hb⟩
  replace sc := sc.row hb ho
  clear hb ho
  go_wp2_with fail
  refine (eqInt _ _ _ _ L0 L0 _ (sc.lies 2 rfl) (sc.lies 0 rfl) (by omega)).mono ?_
  rintro e w8 ⟨rfl, qw8, rfl⟩
  rw [decide_eq_true rfl]
  replace sc := sc.draw qw8
  generalize w7.drewN qw8 = w8 at *
  go_wp2_with fail
  refine (toIntI A1 c1 L1 _ (sc.liesOld HL1.out) (by omega)).mono ?_
  rintro e w9 ⟨Ay1, cy1, rfl, ho, hb⟩
  replace sc := sc.row hb ho
  clear hb ho
  go_wp2_with fail
  refine (eqInt _ _ _ _ L1 L1 _ (sc.lies 2 rfl) (sc.lies 0 rfl) (by omega)).mono ?_
  rintro e w10 ⟨rfl, qw10, rfl⟩
  rw [decide_eq_true rfl]
  replace sc := sc.draw qw10
  generalize w9.drewN qw10 = w10 at *
  have HB := Lib.hid sc.below
  clear sc
  go_wp2
  go_ret
  exact ⟨rfl, HB.out⟩

end Go.Proofs.Ytoehgcakfblblaa
