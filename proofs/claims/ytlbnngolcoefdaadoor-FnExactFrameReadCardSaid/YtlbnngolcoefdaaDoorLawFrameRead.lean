/- The law FnExactFrameRead walked (written by lawgen2.py). -/
import Derived.Test.YtlbnngolcoefdaaDoorFrRd7
import Derived.Test.YtlbnngolcoefdaaDoorFrame1
import Derived.Test.YtlbnngolcoefdaaDoorScene4
import Derived.Test.YtlbnngolcoefdaaDoorBytes1
namespace Go.Proofs.YtlbnngolcoefdaaDoor
open Go.RowKit

set_option maxHeartbeats 1600000 in
theorem lawFrameRead (A0 : Option Addr) (c0 : Nat) (L0 : List Nat) (n1 : Int) (w : World) (hL0 : Lies w B8 A0 L0) (hw0 : ∀ x ∈ L0, x < 2 ^ 8) {b : Addr} (hG : NoFrame w b) (hn1 : n1 ≤ 9223372036854775807) (hbig : L0.length ≤ 1048576) :
    Calls Tryd.prog 8 #[.slice A0 L0.length c0, .int .i64 n1] w fun e w' => e = .returned (.bool true) ∧ Below w.heap.size w w' := by
  have HL0 := Lib.hid hL0
  clear hL0
  have HW0 := Lib.hid hw0
  clear hw0
  have HG := Lib.hid hG
  clear hG
  have hPl := rB_len L0 n1
  go_enter Tryd.func8, Tryd.ntmps8
  have sc : Scene w w [] := Scene.start w
  have hnd : decide ((1048576 : Int) < (L0.length : Int)) = false := by simp; omega
  go_wp2_with fail
  refine (toByte_new A0 c0 L0 _ (sc.liesOld HL0.out) (by omega)).mono ?_
  rintro e w1 ⟨Ap0, cp0, rfl, ho, hb⟩
  replace sc := sc.row hb ho
  clear hb ho
  go_wp2_with fail
  refine (specFrameRead_b _ _ L0 n1 _ (by exact sc.lies 0 rfl) HW0.out (row_cap (sc.getRow 0 rfl)).1 (row_cap (sc.getRow 0 rfl)).2 (by omega) hn1).mono ?_
  rintro e w2 ⟨AR0, cR0, rfl, ho, hb⟩
  replace sc := sc.row hb ho
  clear hb ho
  go_wp2_with fail
  replace sc := sc.box 49 #[.int .i64 (rK L0 n1), .slice AR0 (rB L0 n1).length cR0]
  generalize w2.alloc (Obj.cells #[.int .i64 (rK L0 n1), .slice AR0 (rB L0 n1).length cR0] 49) = w3 at *
  generalize w2.heap.size = sR0 at *
  clear hnd
  refine (toByte_new A0 c0 L0 _ (sc.liesOld HL0.out) (by omega)).mono ?_
  rintro e w4 ⟨Ax0, cx0, rfl, ho, hb⟩
  replace sc := sc.row hb ho
  clear hb ho
  obtain ⟨fR00, fR01, fR0l⟩ := sc.two 1 rfl
  go_wp2_with fail
  clear fR00 fR01 fR0l
  refine (implFrameRead_b _ _ L0 n1 b _ (HG.out.below sc.below) (by exact sc.lies 0 rfl) HW0.out (row_cap (sc.getRow 0 rfl)).1 (row_cap (sc.getRow 0 rfl)).2 (by omega)).mono ?_
  rintro e w5 ⟨AG0, cG0, rfl, ho, hb⟩
  replace sc := sc.row hb ho
  clear hb ho
  obtain ⟨fR00, fR01, fR0l⟩ := sc.two 2 rfl
  go_wp2_with fail
  clear fR00 fR01 fR0l
  replace sc := sc.box 49 #[.int .i64 (rK L0 n1), .slice AG0 (rB L0 n1).length cG0]
  generalize w5.alloc (Obj.cells #[.int .i64 (rK L0 n1), .slice AG0 (rB L0 n1).length cG0] 49) = w6 at *
  generalize w5.heap.size = sG0 at *
  refine (eqFrame_true _ _ _ _ _ (rB L0 n1) _ (sc.lies 1 rfl) (sc.lies 4 rfl) (by omega)).mono ?_
  rintro e w7 ⟨rfl, hb⟩
  replace sc := sc.step hb
  clear hb
  have t1G7 : ((rN L0 n1) != (rN L0 n1)) = false := by simp
  have t2G7 : ((rO L0 n1) != (rO L0 n1)) = false := by simp
  obtain ⟨fG00, fG01, fG0l⟩ := sc.two 0 rfl
  obtain ⟨fR00, fR01, fR0l⟩ := sc.two 3 rfl
  go_wp2_with fail
  clear fG00 fG01 fG0l fR00 fR01 fR0l
  refine (toByte_new A0 c0 L0 _ (sc.liesOld HL0.out) (by omega)).mono ?_
  rintro e w8 ⟨Ay0, cy0, rfl, ho, hb⟩
  replace sc := sc.row hb ho
  clear hb ho
  obtain ⟨fG00, fG01, fG0l⟩ := sc.two 1 rfl
  obtain ⟨fR00, fR01, fR0l⟩ := sc.two 4 rfl
  go_wp2_with fail
  clear fG00 fG01 fG0l fR00 fR01 fR0l
  refine (eqByte _ _ _ _ L0 L0 _ (sc.lies 3 rfl) (sc.lies 0 rfl) (by omega)).mono ?_
  rintro e w9 ⟨rfl, qw9, rfl⟩
  rw [decide_eq_true rfl]
  replace sc := sc.draw qw9
  generalize w8.drewN qw9 = w9 at *
  have hk0 : (0 : Int) ≤ 1 := by omega
  obtain ⟨fG00, fG01, fG0l⟩ := sc.two 1 rfl
  obtain ⟨fR00, fR01, fR0l⟩ := sc.two 4 rfl
  go_wp2_with fail
  clear fG00 fG01 fG0l fR00 fR01 fR0l
  refine (markByte _ _ _ 0 (1) _ _ (sc.getRow 3 rfl) (by omega) (by omega) (by omega)).mono ?_
  rintro e w10 ⟨rfl, ho, hg⟩
  replace sc := sc.mark 3 rfl hg ho
  clear ho hg
  simp only [List.set_cons_zero, List.set_cons_succ] at sc
  have dk : decide ((1 + (L0.length : Int) : Int) < 0) = false := by simp; omega
  obtain ⟨fG00, fG01, fG0l⟩ := sc.two 1 rfl
  obtain ⟨fR00, fR01, fR0l⟩ := sc.two 4 rfl
  go_wp2_with fail
  clear fG00 fG01 fG0l fR00 fR01 fR0l
  refine (eqFrame_true _ _ _ _ _ (rB L0 n1) _ (sc.lies 2 rfl) (sc.lies 5 rfl) (by omega)).mono ?_
  rintro e w11 ⟨rfl, hb⟩
  replace sc := sc.step hb
  clear hb
  have t1G11 : ((rN L0 n1) != (rN L0 n1)) = false := by simp
  have t2G11 : ((rO L0 n1) != (rO L0 n1)) = false := by simp
  clear dk
  obtain ⟨fG00, fG01, fG0l⟩ := sc.two 1 rfl
  obtain ⟨fR00, fR01, fR0l⟩ := sc.two 4 rfl
  go_wp2_with fail
  clear fG00 fG01 fG0l fR00 fR01 fR0l
  refine (markFrame_any _ _ _ _ 0 (1) _ _ (sc.getRow 2 rfl) (by omega) (by omega) (by omega)).mono ?_
  rintro e w12 ⟨rfl, ho, hg⟩
  replace sc := sc.mark 2 rfl hg ho
  clear ho hg
  simp only [List.set_cons_zero, List.set_cons_succ] at sc
  obtain ⟨fG00, fG01, fG0l⟩ := sc.two 1 rfl
  obtain ⟨fR00, fR01, fR0l⟩ := sc.two 4 rfl
  go_wp2_with fail
  clear fG00 fG01 fG0l fR00 fR01 fR0l
  refine (heldFrame_any _ _ _ _ 1 _ (lies_marks (sc.getRow 2 rfl)) (by omega) (by omega) (by omega)).mono ?_
  rintro e w13 ⟨rfl, hb⟩
  replace sc := sc.step hb
  clear hb
  have dq : decide ((1 : Int) + ((rB L0 n1).length : Int) < 0) = false := by simp; omega
  have dq2 : ¬ ((1 : Int) + ((rB L0 n1).length : Int) < 0) := by omega
  obtain ⟨fG00, fG01, fG0l⟩ := sc.two 1 rfl
  obtain ⟨fR00, fR01, fR0l⟩ := sc.two 4 rfl
  go_wp2_with fail
  clear fG00 fG01 fG0l fR00 fR01 fR0l
  refine (toByte_new A0 c0 L0 _ (sc.liesOld HL0.out) (by omega)).mono ?_
  rintro e w14 ⟨Aq0, cq0, rfl, ho, hb⟩
  replace sc := sc.row hb ho
  clear hb ho
  obtain ⟨fG00, fG01, fG0l⟩ := sc.two 2 rfl
  obtain ⟨fR00, fR01, fR0l⟩ := sc.two 5 rfl
  go_wp2_with fail
  clear fG00 fG01 fG0l fR00 fR01 fR0l
  refine (implFrameRead_b _ _ L0 n1 b _ (HG.out.below sc.below) (by exact sc.lies 0 rfl) HW0.out (row_cap (sc.getRow 0 rfl)).1 (row_cap (sc.getRow 0 rfl)).2 (by omega)).mono ?_
  rintro e w15 ⟨AH0, cH0, rfl, ho, hb⟩
  replace sc := sc.row hb ho
  clear hb ho
  obtain ⟨fG00, fG01, fG0l⟩ := sc.two 3 rfl
  obtain ⟨fR00, fR01, fR0l⟩ := sc.two 6 rfl
  go_wp2_with fail
  clear fG00 fG01 fG0l fR00 fR01 fR0l
  replace sc := sc.box 49 #[.int .i64 (rK L0 n1), .slice AH0 (rB L0 n1).length cH0]
  generalize w15.alloc (Obj.cells #[.int .i64 (rK L0 n1), .slice AH0 (rB L0 n1).length cH0] 49) = w16 at *
  generalize w15.heap.size = sH0 at *
  refine (eqFrame_true _ _ _ _ _ (rB L0 n1) _ (sc.lies 1 rfl) (sc.lies 8 rfl) (by omega)).mono ?_
  rintro e w17 ⟨rfl, hb⟩
  replace sc := sc.step hb
  clear hb
  have t1H17 : ((rN L0 n1) != (rN L0 n1)) = false := by simp
  have t2H17 : ((rO L0 n1) != (rO L0 n1)) = false := by simp
  obtain ⟨fH00, fH01, fH0l⟩ := sc.two 0 rfl
  obtain ⟨fG00, fG01, fG0l⟩ := sc.two 4 rfl
  obtain ⟨fR00, fR01, fR0l⟩ := sc.two 7 rfl
  go_wp2_with fail
  clear fH00 fH01 fH0l fG00 fG01 fG0l fR00 fR01 fR0l
  refine (heldFrame_any _ _ _ _ 1 _ (lies_marks (sc.getRow 5 rfl)) (by omega) (by omega) (by omega)).mono ?_
  rintro e w18 ⟨rfl, hb⟩
  replace sc := sc.step hb
  clear hb
  have HB := Lib.hid sc.below
  clear sc
  go_wp2
  go_ret
  exact ⟨rfl, HB.out⟩

end Go.Proofs.YtlbnngolcoefdaaDoor
