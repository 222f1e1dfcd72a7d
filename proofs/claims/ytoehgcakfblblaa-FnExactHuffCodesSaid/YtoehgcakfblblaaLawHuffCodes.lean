/- The law FnExactHuffCodes walked (written by lawgen6.py). -/
import Derived.Test.YtoehgcakfblblaaHf4
import Derived.Test.YtoehgcakfblblaaHf7
import Derived.Test.YtoehgcakfblblaaScene4
import Derived.Test.YtoehgcakfblblaaWords1
namespace Go.Proofs.Ytoehgcakfblblaa
open Go.RowKit

set_option maxHeartbeats 1600000 in
theorem lawHuffCodes (A0 : Option Addr) (c0 : Nat) (L0 : List Int) (w : World) (hL0 : Lies w I A0 L0) (hbig0 : L0.length ≤ 1048576) :
    Calls Try.prog 10 #[.slice A0 L0.length c0] w fun e w' => e = .returned (.bool true) ∧ Below w.heap.size w w' := by
  have HL0 := Lib.hid hL0
  clear hL0
  have hPl := codesV_len L0
  go_enter Try.func10, Try.ntmps10
  have sc : Scene w w [] := Scene.start w
  have hnd0 : decide ((1048576 : Int) < (L0.length : Int)) = false := by simp; omega
  go_wp2_with fail
  refine (toIntI A0 c0 L0 _ (sc.liesOld HL0.out) (by omega)).mono ?_
  rintro e w1 ⟨Ap0, cp0, rfl, ho, hb⟩
  replace sc := sc.row hb ho
  clear hb ho
  go_wp2_with fail
  refine (specHuffCodes_any _ _ L0 _ (by exact sc.lies 0 rfl)).mono ?_
  rintro e w2 ⟨AR0, cR0, rfl, ho, hb⟩
  replace sc := sc.row hb ho
  clear hb ho
  clear hnd0
  go_wp2_with fail
  refine (toIntI A0 c0 L0 _ (sc.liesOld HL0.out) (by omega)).mono ?_
  rintro e w3 ⟨Ax0, cx0, rfl, ho, hb⟩
  replace sc := sc.row hb ho
  clear hb ho
  go_wp2_with fail
  refine (implHuffCodes_any _ _ L0 _ (by exact sc.lies 0 rfl)).mono ?_
  rintro e w4 ⟨AG0, cG0, rfl, ho, hb⟩
  replace sc := sc.row hb ho
  clear hb ho
  go_wp2_with fail
  refine (eqInt _ _ _ _ (codesV L0) (codesV L0) _ (sc.lies 0 rfl) (sc.lies 2 rfl) (by omega)).mono ?_
  rintro e w5 ⟨rfl, qw5, rfl⟩
  rw [decide_eq_true rfl]
  replace sc := sc.draw qw5
  generalize w4.drewN qw5 = w5 at *
  go_wp2_with fail
  refine (toIntI A0 c0 L0 _ (sc.liesOld HL0.out) (by omega)).mono ?_
  rintro e w6 ⟨Ay0, cy0, rfl, ho, hb⟩
  replace sc := sc.row hb ho
  clear hb ho
  go_wp2_with fail
  refine (eqInt _ _ _ _ L0 L0 _ (sc.lies 2 rfl) (sc.lies 0 rfl) (by omega)).mono ?_
  rintro e w7 ⟨rfl, qw7, rfl⟩
  rw [decide_eq_true rfl]
  replace sc := sc.draw qw7
  generalize w6.drewN qw7 = w7 at *
  go_wp2_with fail
  refine (markInt _ _ _ 0 (1) _ _ (sc.getRow 2 rfl) (by omega) (by omega) (by omega)).mono ?_
  rintro e w8 ⟨rfl, ho, hg⟩
  replace sc := sc.mark 2 rfl hg ho
  clear ho hg
  simp only [List.set_cons_zero, List.set_cons_succ] at sc
  have dk : decide ((1 + (L0.length : Int) : Int) < 0) = false := by simp; omega
  go_wp2_with fail
  refine (eqInt _ _ _ _ (codesV L0) (codesV L0) _ (sc.lies 1 rfl) (sc.lies 3 rfl) (by omega)).mono ?_
  rintro e w9 ⟨rfl, qw9, rfl⟩
  rw [decide_eq_true rfl]
  replace sc := sc.draw qw9
  generalize w8.drewN qw9 = w9 at *
  clear dk
  go_wp2_with fail
  refine (markInt _ _ _ 0 (1) _ _ (sc.getRow 1 rfl) (by omega) (by omega) (by omega)).mono ?_
  rintro e w10 ⟨rfl, ho, hg⟩
  replace sc := sc.mark 1 rfl hg ho
  clear ho hg
  simp only [List.set_cons_zero, List.set_cons_succ] at sc
  go_wp2_with fail
  refine (heldInt _ _ _ 1 _ (lies_ints (sc.getRow 1 rfl)) (by omega) (by omega) (by omega)).mono ?_
  rintro e w11 ⟨rfl, rfl⟩
  have dq : decide ((1 : Int) + ((codesV L0).length : Int) < 0) = false := by simp; omega
  have dq2 : ¬ ((1 : Int) + ((codesV L0).length : Int) < 0) := by omega
  go_wp2_with fail
  refine (toIntI A0 c0 L0 _ (sc.liesOld HL0.out) (by omega)).mono ?_
  rintro e w12 ⟨Aq0, cq0, rfl, ho, hb⟩
  replace sc := sc.row hb ho
  clear hb ho
  go_wp2_with fail
  refine (implHuffCodes_any _ _ L0 _ (by exact sc.lies 0 rfl)).mono ?_
  rintro e w13 ⟨AH0, cH0, rfl, ho, hb⟩
  replace sc := sc.row hb ho
  clear hb ho
  go_wp2_with fail
  refine (eqInt _ _ _ _ (codesV L0) (codesV L0) _ (sc.lies 0 rfl) (sc.lies 5 rfl) (by omega)).mono ?_
  rintro e w14 ⟨rfl, qw14, rfl⟩
  rw [decide_eq_true rfl]
  replace sc := sc.draw qw14
  generalize w13.drewN qw14 = w14 at *
  go_wp2_with fail
  refine (heldInt _ _ _ 1 _ (lies_ints (sc.getRow 3 rfl)) (by omega) (by omega) (by omega)).mono ?_
  rintro e w15 ⟨rfl, rfl⟩
  have HB := Lib.hid sc.below
  clear sc
  go_wp2
  go_ret
  exact ⟨rfl, HB.out⟩

end Go.Proofs.Ytoehgcakfblblaa
