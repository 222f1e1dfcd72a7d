/- The law FnExactFrameOf walked (written by lawgen2.py). -/
import Derived.Test.YtlbnngolcoefdaaFr3
import Derived.Test.YtlbnngolcoefdaaFrame1
namespace Go.Proofs.Ytlbnngolcoefdaa
open Go.RowKit

set_option maxHeartbeats 1600000 in
theorem lawFrameOf (N0 : Int) (A0 : Option Addr) (c0 : Nat) (L0 : List Nat) (w : World) (hL0 : Lies w B8 A0 L0) (hw0 : ∀ x ∈ L0, x < 2 ^ 8) (hbig : L0.length ≤ 1048576) :
    Calls Try.prog 6 #[.agg #[.int .i64 N0, .slice A0 L0.length c0]] w fun e w' => e = .returned (.bool true) ∧ Below w.heap.size w w' := by
  have HL0 := Lib.hid hL0
  clear hL0
  have HW0 := Lib.hid hw0
  clear hw0
  have hPl := frV_len N0 L0
  go_enter Try.func6, Try.ntmps6
  have sc : Scene w w [] := Scene.start w
  go_wp2_with fail
  replace sc := sc.box 49 #[.int .i64 N0, .slice A0 L0.length c0]
  generalize w.alloc (Obj.cells #[.int .i64 N0, .slice A0 L0.length c0] 49) = w1 at *
  have cz := szFrame_any N0 A0 L0.length c0 1048576 w1 (by omega) (by omega) (by omega)
  rw [if_neg (show ¬ (1048576 : Int) < (L0.length : Int) by omega)] at cz
  refine cz.mono ?_
  rintro e w2 ⟨rfl, hb⟩
  clear cz
  replace sc := sc.step hb
  clear hb
  have hnz : ¬ (1048576 - (L0.length : Int) < 0) := by omega
  have hnd : decide (1048576 - (L0.length : Int) < 0) = false := by simp; omega
  obtain ⟨fa00, fa01, fa0l⟩ := sc.two 0 rfl
  go_wp2_with fail
  clear fa00 fa01 fa0l
  refine (toFrame_new N0 A0 c0 L0 _ (sc.liesOld HL0.out) (by omega)).mono ?_
  rintro e w3 ⟨Ap0, cp0, rfl, ho, hb⟩
  replace sc := sc.row hb ho
  clear hb ho
  obtain ⟨fa00, fa01, fa0l⟩ := sc.two 1 rfl
  go_wp2_with fail
  clear fa00 fa01 fa0l
  refine (specFrameOf_any N0 _ _ L0 _ (by exact sc.lies 0 rfl) (by exact own_tidy (sc.getRow 0 rfl)) HW0.out).mono ?_
  rintro e w4 ⟨AR0, cR0, rfl, ho, hb⟩
  replace sc := sc.row hb ho
  clear hb ho
  clear hnz hnd
  obtain ⟨fa00, fa01, fa0l⟩ := sc.two 2 rfl
  go_wp2_with fail
  clear fa00 fa01 fa0l
  refine (toFrame_new N0 A0 c0 L0 _ (sc.liesOld HL0.out) (by omega)).mono ?_
  rintro e w5 ⟨Ax0, cx0, rfl, ho, hb⟩
  replace sc := sc.row hb ho
  clear hb ho
  obtain ⟨fa00, fa01, fa0l⟩ := sc.two 3 rfl
  go_wp2_with fail
  clear fa00 fa01 fa0l
  replace sc := sc.box 52 #[.int .i64 N0, .slice Ax0 L0.length cx0]
  generalize w5.alloc (Obj.cells #[.int .i64 N0, .slice Ax0 L0.length cx0] 52) = w6 at *
  generalize w5.heap.size = sx0 at *
  refine (implFrameOf_any N0 _ _ L0 _ (by exact sc.lies 1 rfl) (by exact own_tidy (sc.getRow 1 rfl)) HW0.out).mono ?_
  rintro e w7 ⟨AG0, cG0, rfl, ho, hb⟩
  replace sc := sc.row hb ho
  clear hb ho
  obtain ⟨fx00, fx01, fx0l⟩ := sc.two 1 rfl
  obtain ⟨fa00, fa01, fa0l⟩ := sc.two 5 rfl
  go_wp2_with fail
  clear fx00 fx01 fx0l fa00 fa01 fa0l
  refine (eqByte _ _ _ _ (frV N0 L0) (frV N0 L0) _ (sc.lies 0 rfl) (sc.lies 3 rfl) (by omega)).mono ?_
  rintro e w8 ⟨rfl, qw8, rfl⟩
  rw [decide_eq_true rfl]
  replace sc := sc.draw qw8
  generalize w7.drewN qw8 = w8 at *
  obtain ⟨fx00, fx01, fx0l⟩ := sc.two 1 rfl
  obtain ⟨fa00, fa01, fa0l⟩ := sc.two 5 rfl
  go_wp2_with fail
  replace sc := sc.drew
  go_region_held3 (fun w' => w'.cell? ⟨sx0, 0, none⟩ = some (.int .i64 N0) ∧ w'.cell? ⟨sx0, 1, none⟩ = some (.slice Ax0 L0.length cx0) ∧ w'.cell? ⟨w.heap.size, 0, none⟩ = some (.int .i64 N0) ∧ w'.cell? ⟨w.heap.size, 1, none⟩ = some (.slice A0 L0.length c0)) (first | go_keep | (refine ⟨?_, ?_, ?_, ?_⟩ <;> assumption)) (first | (go_at_call 23; (with_reducible refine (toFrame_new N0 A0 c0 L0 _ (by exact sc.liesOld HL0.out) (by omega)).mono ?_); rintro e w9 ⟨Ay0, cy0, rfl, ho, hb⟩; replace sc := sc.row hb ho; clear hb ho; obtain ⟨w9x00, w9x01, w9x0l⟩ := sc.two 2 rfl; obtain ⟨w9a00, w9a01, w9a0l⟩ := sc.two 6 rfl) | (go_at_call 25; (with_reducible refine (eqFrame_true _ _ _ _ _ L0 _ (by exact sc.lies 3 rfl) (by exact sc.lies 0 rfl) (by omega)).mono ?_); rintro e w10 ⟨rfl, hb⟩; replace sc := sc.step hb; clear hb; obtain ⟨w10x00, w10x01, w10x0l⟩ := sc.two 2 rfl; obtain ⟨w10a00, w10a01, w10a0l⟩ := sc.two 6 rfl))
  have hk0 : (0 : Int) ≤ 1 := by omega
  obtain ⟨fx00, fx01, fx0l⟩ := sc.two 2 rfl
  obtain ⟨fa00, fa01, fa0l⟩ := sc.two 6 rfl
  go_wp2_with fail
  clear fx00 fx01 fx0l fa00 fa01 fa0l
  refine (markFrame_any _ _ _ _ 0 (1) _ _ (sc.getRow 3 rfl) (by omega) (by omega) (by omega)).mono ?_
  rintro e w11 ⟨rfl, ho, hg⟩
  replace sc := sc.mark 3 rfl hg ho
  clear ho hg
  simp only [List.set_cons_zero, List.set_cons_succ] at sc
  have dk : decide ((1 + (L0.length : Int) : Int) < 0) = false := by simp; omega
  obtain ⟨fx00, fx01, fx0l⟩ := sc.two 2 rfl
  obtain ⟨fa00, fa01, fa0l⟩ := sc.two 6 rfl
  go_wp2_with fail
  clear fx00 fx01 fx0l fa00 fa01 fa0l
  refine (eqByte _ _ _ _ (frV N0 L0) (frV N0 L0) _ (sc.lies 1 rfl) (sc.lies 4 rfl) (by omega)).mono ?_
  rintro e w12 ⟨rfl, qw12, rfl⟩
  rw [decide_eq_true rfl]
  replace sc := sc.draw qw12
  generalize w11.drewN qw12 = w12 at *
  clear dk
  obtain ⟨fx00, fx01, fx0l⟩ := sc.two 2 rfl
  obtain ⟨fa00, fa01, fa0l⟩ := sc.two 6 rfl
  go_wp2_with fail
  clear fx00 fx01 fx0l fa00 fa01 fa0l
  refine (markByte _ _ _ 0 (1) _ _ (sc.getRow 1 rfl) (by omega) (by omega) (by omega)).mono ?_
  rintro e w13 ⟨rfl, ho, hg⟩
  replace sc := sc.mark 1 rfl hg ho
  clear ho hg
  simp only [List.set_cons_zero, List.set_cons_succ] at sc
  obtain ⟨fx00, fx01, fx0l⟩ := sc.two 2 rfl
  obtain ⟨fa00, fa01, fa0l⟩ := sc.two 6 rfl
  go_wp2_with fail
  clear fx00 fx01 fx0l fa00 fa01 fa0l
  refine (heldByte _ _ _ 1 _ (lies_marks (sc.getRow 1 rfl)) (by omega) (by omega) (by omega)).mono ?_
  rintro e w14 ⟨rfl, rfl⟩
  have dq : decide ((1 : Int) + ((frV N0 L0).length : Int) < 0) = false := by simp; omega
  have dq2 : ¬ ((1 : Int) + ((frV N0 L0).length : Int) < 0) := by omega
  obtain ⟨fx00, fx01, fx0l⟩ := sc.two 2 rfl
  obtain ⟨fa00, fa01, fa0l⟩ := sc.two 6 rfl
  go_wp2_with fail
  clear fx00 fx01 fx0l fa00 fa01 fa0l
  refine (toFrame_new N0 A0 c0 L0 _ (sc.liesOld HL0.out) (by omega)).mono ?_
  rintro e w15 ⟨Aq0, cq0, rfl, ho, hb⟩
  replace sc := sc.row hb ho
  clear hb ho
  obtain ⟨fx00, fx01, fx0l⟩ := sc.two 3 rfl
  obtain ⟨fa00, fa01, fa0l⟩ := sc.two 7 rfl
  go_wp2_with fail
  clear fx00 fx01 fx0l fa00 fa01 fa0l
  refine (implFrameOf_any N0 _ _ L0 _ (by exact sc.lies 0 rfl) (by exact own_tidy (sc.getRow 0 rfl)) HW0.out).mono ?_
  rintro e w16 ⟨AH0, cH0, rfl, ho, hb⟩
  replace sc := sc.row hb ho
  clear hb ho
  obtain ⟨fx00, fx01, fx0l⟩ := sc.two 4 rfl
  obtain ⟨fa00, fa01, fa0l⟩ := sc.two 8 rfl
  go_wp2_with fail
  clear fx00 fx01 fx0l fa00 fa01 fa0l
  refine (eqByte _ _ _ _ (frV N0 L0) (frV N0 L0) _ (sc.lies 0 rfl) (sc.lies 6 rfl) (by omega)).mono ?_
  rintro e w17 ⟨rfl, qw17, rfl⟩
  rw [decide_eq_true rfl]
  replace sc := sc.draw qw17
  generalize w16.drewN qw17 = w17 at *
  obtain ⟨fx00, fx01, fx0l⟩ := sc.two 4 rfl
  obtain ⟨fa00, fa01, fa0l⟩ := sc.two 8 rfl
  go_wp2_with fail
  clear fx00 fx01 fx0l fa00 fa01 fa0l
  refine (heldByte _ _ _ 1 _ (lies_marks (sc.getRow 3 rfl)) (by omega) (by omega) (by omega)).mono ?_
  rintro e w18 ⟨rfl, rfl⟩
  have HB := Lib.hid sc.below
  clear sc
  go_wp2
  go_ret
  exact ⟨rfl, HB.out⟩

end Go.Proofs.Ytlbnngolcoefdaa
