/- The law FnExactSparseList walked (written by lawgen3.py). -/
import Derived.Test.YtlbnngolcoefdaaSp18
import Derived.Test.YtlbnngolcoefdaaSpTo
import Derived.Test.YtlbnngolcoefdaaNewI
import Derived.Test.YtlbnngolcoefdaaSpMk
namespace Go.Proofs.Ytlbnngolcoefdaa
open Go.RowKit
set_option maxRecDepth 100000

set_option maxHeartbeats 1600000 in
theorem lawSparseList (V0 N0 P0 M0 K0 H0 : Int) (A0 : Option Addr) (c0 : Nat) (L0 : List Nat) (B0 : Option Addr) (d0 : Nat) (K1 : List Nat) (w : World) (hL0 : Lies w U A0 L0) (hw0 : ∀ x ∈ L0, x < 2 ^ 64) (hL1 : Lies w U B0 K1) (hw1 : ∀ x ∈ K1, x < 2 ^ 64) (hN0 : N0 ≤ 9223372036854775807) (hbig : L0.length + K1.length ≤ 1048576) :
    Calls Try.prog 3 #[SP V0 N0 P0 M0 K0 (.slice A0 L0.length c0) H0 (.slice B0 K1.length d0)] w fun e w' => e = .returned (.bool true) ∧ Below w.heap.size w w' := by
  have HL0 := Lib.hid hL0
  clear hL0
  have HL1 := Lib.hid hL1
  clear hL1
  have HW0 := Lib.hid hw0
  clear hw0
  have HW1 := Lib.hid hw1
  clear hw1
  have hSl := slV_len V0 N0 P0 M0 K0 L0 H0 K1
  go_enter Try.func3, Try.ntmps3
  have sc : Scene w w [] := Scene.start w
  go_wp2_with fail
  replace sc := sc.box 28 #[.int .i64 V0, .int .i64 N0, .int .i64 P0, .int .i64 M0, .int .i64 K0, .slice A0 L0.length c0, .int .i64 H0, .slice B0 K1.length d0]
  generalize w.alloc (Obj.cells #[.int .i64 V0, .int .i64 N0, .int .i64 P0, .int .i64 M0, .int .i64 K0, .slice A0 L0.length c0, .int .i64 H0, .slice B0 K1.length d0] 28) = w1 at *
  refine (szSparse_fit V0 N0 P0 M0 K0 H0 A0 B0 L0.length c0 K1.length d0 w1 hbig).mono ?_
  rintro e w2 ⟨rfl, hb⟩
  replace sc := sc.step hb
  clear hb
  have hnz : ¬ (1048576 - (L0.length : Int) - (K1.length : Int) < 0) := by omega
  have hnd : decide (1048576 - (L0.length : Int) - (K1.length : Int) < 0) = false := by simp; omega
  obtain ⟨⟨fa0, fa1, fa2, fa3, fa4, fa5, fa6, fa7⟩, _, fal⟩ := box_eight (sc.getBox 0 rfl)
  go_wp2_with fail
  clear fa0 fa1 fa2 fa3 fa4 fa5 fa6 fa7 fal
  refine (toSparse_new V0 N0 P0 M0 K0 H0 A0 c0 L0 B0 d0 K1 _ (sc.liesOld HL0.out) (sc.liesOld HL1.out) (by omega) (by omega)).mono ?_
  rintro e w3 ⟨Ap, cp, Bp, dp, rfl, tr⟩
  replace sc := sc.rows tr
  clear tr
  obtain ⟨⟨fa0, fa1, fa2, fa3, fa4, fa5, fa6, fa7⟩, _, fal⟩ := box_eight (sc.getBox 2 rfl)
  go_wp2_with fail
  clear fa0 fa1 fa2 fa3 fa4 fa5 fa6 fa7 fal
  refine (specSparseList_any V0 N0 P0 M0 K0 H0 _ _ _ _ L0 K1 _ (by exact sc.lies 1 rfl) (by exact sc.lies 0 rfl) HW0.out HW1.out).mono ?_
  rintro e w4 ⟨AR, cR, rfl, ho, hb⟩
  replace sc := sc.row hb ho
  clear hb ho
  clear hnz hnd
  obtain ⟨⟨fa0, fa1, fa2, fa3, fa4, fa5, fa6, fa7⟩, _, fal⟩ := box_eight (sc.getBox 3 rfl)
  go_wp2_with fail
  clear fa0 fa1 fa2 fa3 fa4 fa5 fa6 fa7 fal
  refine (toSparse_new V0 N0 P0 M0 K0 H0 A0 c0 L0 B0 d0 K1 _ (sc.liesOld HL0.out) (sc.liesOld HL1.out) (by omega) (by omega)).mono ?_
  rintro e w5 ⟨Ax, cx, Bx, dx, rfl, tr⟩
  replace sc := sc.rows tr
  clear tr
  obtain ⟨⟨fa0, fa1, fa2, fa3, fa4, fa5, fa6, fa7⟩, _, fal⟩ := box_eight (sc.getBox 5 rfl)
  go_wp2_with fail
  clear fa0 fa1 fa2 fa3 fa4 fa5 fa6 fa7 fal
  replace sc := sc.box 36 #[.int .i64 V0, .int .i64 N0, .int .i64 P0, .int .i64 M0, .int .i64 K0, .slice Ax L0.length cx, .int .i64 H0, .slice Bx K1.length dx]
  generalize w5.alloc (Obj.cells #[.int .i64 V0, .int .i64 N0, .int .i64 P0, .int .i64 M0, .int .i64 K0, .slice Ax L0.length cx, .int .i64 H0, .slice Bx K1.length dx] 36) = w6 at *
  generalize w5.heap.size = sx at *
  refine (implSparseList_any V0 N0 P0 M0 K0 H0 _ _ _ _ L0 K1 _ (by exact sc.lies 2 rfl) (by exact sc.lies 1 rfl) HW0.out HW1.out hN0 (by exact row_capS (sc.getRow 1 rfl))).mono ?_
  rintro e w7 ⟨AG, cG, rfl, ho, hb⟩
  replace sc := sc.row hb ho
  clear hb ho
  obtain ⟨⟨fx0, fx1, fx2, fx3, fx4, fx5, fx6, fx7⟩, _, fxl⟩ := box_eight (sc.getBox 1 rfl)
  obtain ⟨⟨fa0, fa1, fa2, fa3, fa4, fa5, fa6, fa7⟩, _, fal⟩ := box_eight (sc.getBox 7 rfl)
  go_wp2_with fail
  clear fx0 fx1 fx2 fx3 fx4 fx5 fx6 fx7 fxl fa0 fa1 fa2 fa3 fa4 fa5 fa6 fa7 fal
  refine (eqInt _ _ _ _ (slV V0 N0 P0 M0 K0 L0 H0 K1) (slV V0 N0 P0 M0 K0 L0 H0 K1) _ (sc.lies 0 rfl) (sc.lies 4 rfl) (by omega)).mono ?_
  rintro e w8 ⟨rfl, qw8, rfl⟩
  rw [decide_eq_true rfl]
  replace sc := sc.draw qw8
  generalize w7.drewN qw8 = w8 at *
  obtain ⟨⟨fx0, fx1, fx2, fx3, fx4, fx5, fx6, fx7⟩, _, fxl⟩ := box_eight (sc.getBox 1 rfl)
  obtain ⟨⟨fa0, fa1, fa2, fa3, fa4, fa5, fa6, fa7⟩, _, fal⟩ := box_eight (sc.getBox 7 rfl)
  go_wp2_with fail
  replace sc := sc.drew
  go_region_held3 (fun w' => w'.cell? ⟨sx, 0, none⟩ = some (.int .i64 V0) ∧ w'.cell? ⟨sx, 1, none⟩ = some (.int .i64 N0) ∧ w'.cell? ⟨sx, 2, none⟩ = some (.int .i64 P0) ∧ w'.cell? ⟨sx, 3, none⟩ = some (.int .i64 M0) ∧ w'.cell? ⟨sx, 4, none⟩ = some (.int .i64 K0) ∧ w'.cell? ⟨sx, 5, none⟩ = some (.slice Ax L0.length cx) ∧ w'.cell? ⟨sx, 6, none⟩ = some (.int .i64 H0) ∧ w'.cell? ⟨sx, 7, none⟩ = some (.slice Bx K1.length dx) ∧ w'.cell? ⟨w.heap.size, 0, none⟩ = some (.int .i64 V0) ∧ w'.cell? ⟨w.heap.size, 1, none⟩ = some (.int .i64 N0) ∧ w'.cell? ⟨w.heap.size, 2, none⟩ = some (.int .i64 P0) ∧ w'.cell? ⟨w.heap.size, 3, none⟩ = some (.int .i64 M0) ∧ w'.cell? ⟨w.heap.size, 4, none⟩ = some (.int .i64 K0) ∧ w'.cell? ⟨w.heap.size, 5, none⟩ = some (.slice A0 L0.length c0) ∧ w'.cell? ⟨w.heap.size, 6, none⟩ = some (.int .i64 H0) ∧ w'.cell? ⟨w.heap.size, 7, none⟩ = some (.slice B0 K1.length d0)) (first | go_keep | (refine ⟨?_, ?_, ?_, ?_, ?_, ?_, ?_, ?_, ?_, ?_, ?_, ?_, ?_, ?_, ?_, ?_⟩ <;> assumption)) (first | (go_at_call 10; (with_reducible refine Calls.mono (toSparse_new V0 N0 P0 M0 K0 H0 A0 c0 L0 B0 d0 K1 _ (by exact sc.liesOld HL0.out) (by exact sc.liesOld HL1.out) (by omega) (by omega)) ?_); rintro e w9 ⟨Ay, cy, By, dy, rfl, tr⟩; replace sc := sc.rows tr; clear tr; obtain ⟨⟨w9x0, w9x1, w9x2, w9x3, w9x4, w9x5, w9x6, w9x7⟩, _, w9xl⟩ := box_eight (sc.getBox 3 rfl); obtain ⟨⟨w9a0, w9a1, w9a2, w9a3, w9a4, w9a5, w9a6, w9a7⟩, _, w9al⟩ := box_eight (sc.getBox 9 rfl)) | (go_at_call 13; (with_reducible refine Calls.mono (eqSparse_true _ _ _ _ _ _ _ _ _ _ _ _ _ _ L0 K1 _ (by exact sc.lies 5 rfl) (by exact sc.lies 1 rfl) (by exact sc.lies 4 rfl) (by exact sc.lies 0 rfl) (by omega) (by omega)) ?_); rintro e w10 ⟨rfl, hb⟩; replace sc := sc.step hb; clear hb; obtain ⟨⟨w10x0, w10x1, w10x2, w10x3, w10x4, w10x5, w10x6, w10x7⟩, _, w10xl⟩ := box_eight (sc.getBox 3 rfl); obtain ⟨⟨w10a0, w10a1, w10a2, w10a3, w10a4, w10a5, w10a6, w10a7⟩, _, w10al⟩ := box_eight (sc.getBox 9 rfl)))
  obtain ⟨⟨fx0, fx1, fx2, fx3, fx4, fx5, fx6, fx7⟩, _, fxl⟩ := box_eight (sc.getBox 3 rfl)
  obtain ⟨⟨fa0, fa1, fa2, fa3, fa4, fa5, fa6, fa7⟩, _, fal⟩ := box_eight (sc.getBox 9 rfl)
  go_wp2_with fail
  clear fx0 fx1 fx2 fx3 fx4 fx5 fx6 fx7 fxl fa0 fa1 fa2 fa3 fa4 fa5 fa6 fa7 fal
  refine (markSparse_wide _ _ _ _ _ _ _ _ _ _ _ _ 1 _ _ _ _ _ 5 4 (by decide) sc rfl rfl (by omega) (by omega) (by omega) (by omega) (by omega)).mono ?_
  rintro e w11 ⟨rfl, sc2⟩
  clear sc
  have sc := sc2
  clear sc2
  simp only [List.set_cons_zero, List.set_cons_succ] at sc
  have dk : decide ((1 + (L0.length : Int) + (K1.length : Int) : Int) < 0) = false := by simp; omega
  obtain ⟨⟨fx0, fx1, fx2, fx3, fx4, fx5, fx6, fx7⟩, _, fxl⟩ := box_eight (sc.getBox 3 rfl)
  obtain ⟨⟨fa0, fa1, fa2, fa3, fa4, fa5, fa6, fa7⟩, _, fal⟩ := box_eight (sc.getBox 9 rfl)
  go_wp2_with fail
  clear fx0 fx1 fx2 fx3 fx4 fx5 fx6 fx7 fxl fa0 fa1 fa2 fa3 fa4 fa5 fa6 fa7 fal
  refine (eqInt _ _ _ _ (slV V0 N0 P0 M0 K0 L0 H0 K1) (slV V0 N0 P0 M0 K0 L0 H0 K1) _ (sc.lies 2 rfl) (sc.lies 6 rfl) (by omega)).mono ?_
  rintro e w12 ⟨rfl, qw12, rfl⟩
  rw [decide_eq_true rfl]
  replace sc := sc.draw qw12
  generalize w11.drewN qw12 = w12 at *
  clear dk
  obtain ⟨⟨fx0, fx1, fx2, fx3, fx4, fx5, fx6, fx7⟩, _, fxl⟩ := box_eight (sc.getBox 3 rfl)
  obtain ⟨⟨fa0, fa1, fa2, fa3, fa4, fa5, fa6, fa7⟩, _, fal⟩ := box_eight (sc.getBox 9 rfl)
  go_wp2_with fail
  clear fx0 fx1 fx2 fx3 fx4 fx5 fx6 fx7 fxl fa0 fa1 fa2 fa3 fa4 fa5 fa6 fa7 fal
  refine (markInt _ _ _ 0 1 _ _ (sc.getRow 2 rfl) (by omega) (by omega) (by omega)).mono ?_
  rintro e w13 ⟨rfl, ho, hg⟩
  replace sc := sc.mark 2 rfl hg ho
  clear ho hg
  simp only [List.set_cons_zero, List.set_cons_succ] at sc
  obtain ⟨⟨fx0, fx1, fx2, fx3, fx4, fx5, fx6, fx7⟩, _, fxl⟩ := box_eight (sc.getBox 3 rfl)
  obtain ⟨⟨fa0, fa1, fa2, fa3, fa4, fa5, fa6, fa7⟩, _, fal⟩ := box_eight (sc.getBox 9 rfl)
  go_wp2_with fail
  clear fx0 fx1 fx2 fx3 fx4 fx5 fx6 fx7 fxl fa0 fa1 fa2 fa3 fa4 fa5 fa6 fa7 fal
  refine (heldInt _ _ _ 1 _ (lies_ints (sc.getRow 2 rfl)) (by omega) (by omega) (by omega)).mono ?_
  rintro e w14 ⟨rfl, rfl⟩
  have dq : decide ((1 : Int) + ((slV V0 N0 P0 M0 K0 L0 H0 K1).length : Int) < 0) = false := by simp; omega
  have dq2 : ¬ ((1 : Int) + ((slV V0 N0 P0 M0 K0 L0 H0 K1).length : Int) < 0) := by omega
  obtain ⟨⟨fx0, fx1, fx2, fx3, fx4, fx5, fx6, fx7⟩, _, fxl⟩ := box_eight (sc.getBox 3 rfl)
  obtain ⟨⟨fa0, fa1, fa2, fa3, fa4, fa5, fa6, fa7⟩, _, fal⟩ := box_eight (sc.getBox 9 rfl)
  go_wp2_with fail
  clear fx0 fx1 fx2 fx3 fx4 fx5 fx6 fx7 fxl fa0 fa1 fa2 fa3 fa4 fa5 fa6 fa7 fal
  refine (toSparse_new V0 N0 P0 M0 K0 H0 A0 c0 L0 B0 d0 K1 _ (sc.liesOld HL0.out) (sc.liesOld HL1.out) (by omega) (by omega)).mono ?_
  rintro e w15 ⟨Aq, cq, Bq, dq, rfl, tr⟩
  replace sc := sc.rows tr
  clear tr
  obtain ⟨⟨fx0, fx1, fx2, fx3, fx4, fx5, fx6, fx7⟩, _, fxl⟩ := box_eight (sc.getBox 5 rfl)
  obtain ⟨⟨fa0, fa1, fa2, fa3, fa4, fa5, fa6, fa7⟩, _, fal⟩ := box_eight (sc.getBox 11 rfl)
  go_wp2_with fail
  clear fx0 fx1 fx2 fx3 fx4 fx5 fx6 fx7 fxl fa0 fa1 fa2 fa3 fa4 fa5 fa6 fa7 fal
  refine (implSparseList_any V0 N0 P0 M0 K0 H0 _ _ _ _ L0 K1 _ (by exact sc.lies 1 rfl) (by exact sc.lies 0 rfl) HW0.out HW1.out hN0 (by exact row_capS (sc.getRow 0 rfl))).mono ?_
  rintro e w16 ⟨AH, cH, rfl, ho, hb⟩
  replace sc := sc.row hb ho
  clear hb ho
  obtain ⟨⟨fx0, fx1, fx2, fx3, fx4, fx5, fx6, fx7⟩, _, fxl⟩ := box_eight (sc.getBox 6 rfl)
  obtain ⟨⟨fa0, fa1, fa2, fa3, fa4, fa5, fa6, fa7⟩, _, fal⟩ := box_eight (sc.getBox 12 rfl)
  go_wp2_with fail
  clear fx0 fx1 fx2 fx3 fx4 fx5 fx6 fx7 fxl fa0 fa1 fa2 fa3 fa4 fa5 fa6 fa7 fal
  refine (eqInt _ _ _ _ (slV V0 N0 P0 M0 K0 L0 H0 K1) (slV V0 N0 P0 M0 K0 L0 H0 K1) _ (sc.lies 0 rfl) (sc.lies 9 rfl) (by omega)).mono ?_
  rintro e w17 ⟨rfl, qw17, rfl⟩
  rw [decide_eq_true rfl]
  replace sc := sc.draw qw17
  generalize w16.drewN qw17 = w17 at *
  obtain ⟨⟨fx0, fx1, fx2, fx3, fx4, fx5, fx6, fx7⟩, _, fxl⟩ := box_eight (sc.getBox 6 rfl)
  obtain ⟨⟨fa0, fa1, fa2, fa3, fa4, fa5, fa6, fa7⟩, _, fal⟩ := box_eight (sc.getBox 12 rfl)
  go_wp2_with fail
  clear fx0 fx1 fx2 fx3 fx4 fx5 fx6 fx7 fxl fa0 fa1 fa2 fa3 fa4 fa5 fa6 fa7 fal
  refine (heldInt _ _ _ 1 _ (lies_ints (sc.getRow 5 rfl)) (by omega) (by omega) (by omega)).mono ?_
  rintro e w18 ⟨rfl, rfl⟩
  have HB := Lib.hid sc.below
  clear sc
  go_wp2
  go_ret
  exact ⟨rfl, HB.out⟩

end Go.Proofs.Ytlbnngolcoefdaa
