/- The law FnExactSparseOf walked (written by lawgen3.py). -/
import Derived.Test.YtanllfidbhjboaaSpBoth
import Derived.Test.YtanllfidbhjboaaSpLaws
import Derived.Test.YtanllfidbhjboaaNewI
namespace Go.Proofs.Ytanllfidbhjboaa
open Go.RowKit
set_option maxRecDepth 100000

set_option maxHeartbeats 1600000 in
theorem lawSparseOf (A0 : Option Addr) (c0 : Nat) (L0 : List Int) (n1 : Int) (w : World) (hL0 : Lies w I A0 L0) (hbig : L0.length ≤ 1048576) :
    Calls Try.prog 3 #[.slice A0 L0.length c0, .int .i64 n1] w fun e w' => e = .returned (.bool true) ∧ Below w.heap.size w w' := by
  have HL0 := Lib.hid hL0
  clear hL0
  obtain ⟨V, N, P, M, K, Ws, H, Vs, ok, cs, ci, hWl, hVl⟩ := sparse_both L0 n1 (by omega)
  have CS := Lib.hid cs
  have CI := Lib.hid ci
  clear cs ci
  go_enter Try.func3, Try.ntmps3
  have sc : Scene w w [] := Scene.start w
  have hnd : decide ((1048576 : Int) < (L0.length : Int)) = false := by simp; omega
  go_wp2_with fail
  refine (toIntI A0 c0 L0 _ (sc.liesOld HL0.out) (by omega)).mono ?_
  rintro e w1 ⟨Ap, cp, rfl, ho, hb⟩
  replace sc := sc.row hb ho
  clear hb ho
  go_wp2_with fail
  refine (CS.out _ _ _ (by exact sc.lies 0 rfl)).mono ?_
  rintro e w2 ⟨AR, cR, BR, dR, rfl, tr⟩
  replace sc := sc.rows tr
  clear tr
  go_wp2_with fail
  replace sc := sc.box 29 #[.int .i64 V, .int .i64 N, .int .i64 P, .int .i64 M, .int .i64 K, .slice AR Ws.length cR, .int .i64 H, .slice BR Vs.length dR]
  generalize w2.alloc (Obj.cells #[.int .i64 V, .int .i64 N, .int .i64 P, .int .i64 M, .int .i64 K, .slice AR Ws.length cR, .int .i64 H, .slice BR Vs.length dR] 29) = w3 at *
  generalize w2.heap.size = sR at *
  clear hnd
  refine (toIntI A0 c0 L0 _ (sc.liesOld HL0.out) (by omega)).mono ?_
  rintro e w4 ⟨Ax, cx, rfl, ho, hb⟩
  replace sc := sc.row hb ho
  clear hb ho
  obtain ⟨⟨fR0, fR1, fR2, fR3, fR4, fR5, fR6, fR7⟩, _, fRl⟩ := box_eight (sc.getBox 1 rfl)
  go_wp2_with fail
  clear fR0 fR1 fR2 fR3 fR4 fR5 fR6 fR7 fRl
  refine (CI.out _ _ _ (by exact sc.lies 0 rfl)).mono ?_
  rintro e w5 ⟨AG, cG, BG, dG, rfl, tr⟩
  replace sc := sc.rows tr
  clear tr
  obtain ⟨⟨fR0, fR1, fR2, fR3, fR4, fR5, fR6, fR7⟩, _, fRl⟩ := box_eight (sc.getBox 3 rfl)
  go_wp2_with fail
  clear fR0 fR1 fR2 fR3 fR4 fR5 fR6 fR7 fRl
  replace sc := sc.box 29 #[.int .i64 V, .int .i64 N, .int .i64 P, .int .i64 M, .int .i64 K, .slice AG Ws.length cG, .int .i64 H, .slice BG Vs.length dG]
  generalize w5.alloc (Obj.cells #[.int .i64 V, .int .i64 N, .int .i64 P, .int .i64 M, .int .i64 K, .slice AG Ws.length cG, .int .i64 H, .slice BG Vs.length dG] 29) = w6 at *
  generalize w5.heap.size = sG at *
  refine (eqSparse_true _ _ _ _ _ _ _ _ _ _ _ _ _ _ Ws Vs _ (sc.lies 2 rfl) (sc.lies 6 rfl) (sc.lies 1 rfl) (sc.lies 5 rfl) (by omega) (by omega)).mono ?_
  rintro e w7 ⟨rfl, hb⟩
  replace sc := sc.step hb
  clear hb
  have t1G7 : (ok != ok) = false := by simp
  obtain ⟨⟨fG0, fG1, fG2, fG3, fG4, fG5, fG6, fG7⟩, _, fGl⟩ := box_eight (sc.getBox 0 rfl)
  obtain ⟨⟨fR0, fR1, fR2, fR3, fR4, fR5, fR6, fR7⟩, _, fRl⟩ := box_eight (sc.getBox 4 rfl)
  go_wp2_with fail
  clear fG0 fG1 fG2 fG3 fG4 fG5 fG6 fG7 fGl fR0 fR1 fR2 fR3 fR4 fR5 fR6 fR7 fRl
  refine (toIntI A0 c0 L0 _ (sc.liesOld HL0.out) (by omega)).mono ?_
  rintro e w8 ⟨Ay, cy, rfl, ho, hb⟩
  replace sc := sc.row hb ho
  clear hb ho
  obtain ⟨⟨fG0, fG1, fG2, fG3, fG4, fG5, fG6, fG7⟩, _, fGl⟩ := box_eight (sc.getBox 1 rfl)
  obtain ⟨⟨fR0, fR1, fR2, fR3, fR4, fR5, fR6, fR7⟩, _, fRl⟩ := box_eight (sc.getBox 5 rfl)
  go_wp2_with fail
  clear fG0 fG1 fG2 fG3 fG4 fG5 fG6 fG7 fGl fR0 fR1 fR2 fR3 fR4 fR5 fR6 fR7 fRl
  refine (eqInt _ _ _ _ L0 L0 _ (sc.lies 4 rfl) (sc.lies 0 rfl) (by omega)).mono ?_
  rintro e w9 ⟨rfl, qw9, rfl⟩
  rw [decide_eq_true rfl]
  replace sc := sc.draw qw9
  generalize w8.drewN qw9 = w9 at *
  obtain ⟨⟨fG0, fG1, fG2, fG3, fG4, fG5, fG6, fG7⟩, _, fGl⟩ := box_eight (sc.getBox 1 rfl)
  obtain ⟨⟨fR0, fR1, fR2, fR3, fR4, fR5, fR6, fR7⟩, _, fRl⟩ := box_eight (sc.getBox 5 rfl)
  go_wp2_with fail
  clear fG0 fG1 fG2 fG3 fG4 fG5 fG6 fG7 fGl fR0 fR1 fR2 fR3 fR4 fR5 fR6 fR7 fRl
  refine (markInt _ _ _ 0 1 _ _ (sc.getRow 4 rfl) (by omega) (by omega) (by omega)).mono ?_
  rintro e w10 ⟨rfl, ho, hg⟩
  replace sc := sc.mark 4 rfl hg ho
  clear ho hg
  simp only [List.set_cons_zero, List.set_cons_succ] at sc
  have dk : decide ((1 + (L0.length : Int) : Int) < 0) = false := by simp; omega
  obtain ⟨⟨fG0, fG1, fG2, fG3, fG4, fG5, fG6, fG7⟩, _, fGl⟩ := box_eight (sc.getBox 1 rfl)
  obtain ⟨⟨fR0, fR1, fR2, fR3, fR4, fR5, fR6, fR7⟩, _, fRl⟩ := box_eight (sc.getBox 5 rfl)
  go_wp2_with fail
  clear fG0 fG1 fG2 fG3 fG4 fG5 fG6 fG7 fGl fR0 fR1 fR2 fR3 fR4 fR5 fR6 fR7 fRl
  refine (eqSparse_true _ _ _ _ _ _ _ _ _ _ _ _ _ _ Ws Vs _ (sc.lies 3 rfl) (sc.lies 7 rfl) (sc.lies 2 rfl) (sc.lies 6 rfl) (by omega) (by omega)).mono ?_
  rintro e w11 ⟨rfl, hb⟩
  replace sc := sc.step hb
  clear hb
  have t1G11 : (ok != ok) = false := by simp
  clear dk
  obtain ⟨⟨fG0, fG1, fG2, fG3, fG4, fG5, fG6, fG7⟩, _, fGl⟩ := box_eight (sc.getBox 1 rfl)
  obtain ⟨⟨fR0, fR1, fR2, fR3, fR4, fR5, fR6, fR7⟩, _, fRl⟩ := box_eight (sc.getBox 5 rfl)
  go_wp2_with fail
  clear fG0 fG1 fG2 fG3 fG4 fG5 fG6 fG7 fGl fR0 fR1 fR2 fR3 fR4 fR5 fR6 fR7 fRl
  refine (markSparse_any _ _ _ _ _ _ _ _ _ _ _ _ 1 _ _ _ _ _ 3 2 (by decide) sc rfl rfl (by omega) (by omega) (by omega) (by omega)).mono ?_
  rintro e w12 ⟨rfl, sc2⟩
  clear sc
  have sc := sc2
  clear sc2
  simp only [List.set_cons_zero, List.set_cons_succ] at sc
  obtain ⟨⟨fG0, fG1, fG2, fG3, fG4, fG5, fG6, fG7⟩, _, fGl⟩ := box_eight (sc.getBox 1 rfl)
  obtain ⟨⟨fR0, fR1, fR2, fR3, fR4, fR5, fR6, fR7⟩, _, fRl⟩ := box_eight (sc.getBox 5 rfl)
  go_wp2_with fail
  clear fG0 fG1 fG2 fG3 fG4 fG5 fG6 fG7 fGl fR0 fR1 fR2 fR3 fR4 fR5 fR6 fR7 fRl
  refine (heldSparse_any _ _ _ _ _ _ _ _ _ _ _ _ 1 _ (lies_ints (sc.getRow 3 rfl)) (lies_ints (sc.getRow 2 rfl)) (by omega) (by omega) (by omega) (by omega)).mono ?_
  rintro e w13 ⟨rfl, hb⟩
  replace sc := sc.step hb
  clear hb
  have dq : decide ((1 : Int) + (Ws.length : Int) + (Vs.length : Int) < 0) = false := by simp; omega
  have dq2 : ¬ ((1 : Int) + (Ws.length : Int) + (Vs.length : Int) < 0) := by omega
  obtain ⟨⟨fG0, fG1, fG2, fG3, fG4, fG5, fG6, fG7⟩, _, fGl⟩ := box_eight (sc.getBox 1 rfl)
  obtain ⟨⟨fR0, fR1, fR2, fR3, fR4, fR5, fR6, fR7⟩, _, fRl⟩ := box_eight (sc.getBox 5 rfl)
  go_wp2_with fail
  clear fG0 fG1 fG2 fG3 fG4 fG5 fG6 fG7 fGl fR0 fR1 fR2 fR3 fR4 fR5 fR6 fR7 fRl
  refine (toIntI A0 c0 L0 _ (sc.liesOld HL0.out) (by omega)).mono ?_
  rintro e w14 ⟨Aq, cq, rfl, ho, hb⟩
  replace sc := sc.row hb ho
  clear hb ho
  obtain ⟨⟨fG0, fG1, fG2, fG3, fG4, fG5, fG6, fG7⟩, _, fGl⟩ := box_eight (sc.getBox 2 rfl)
  obtain ⟨⟨fR0, fR1, fR2, fR3, fR4, fR5, fR6, fR7⟩, _, fRl⟩ := box_eight (sc.getBox 6 rfl)
  go_wp2_with fail
  clear fG0 fG1 fG2 fG3 fG4 fG5 fG6 fG7 fGl fR0 fR1 fR2 fR3 fR4 fR5 fR6 fR7 fRl
  refine (CI.out _ _ _ (by exact sc.lies 0 rfl)).mono ?_
  rintro e w15 ⟨AH, cH, BH, dH, rfl, tr⟩
  replace sc := sc.rows tr
  clear tr
  obtain ⟨⟨fG0, fG1, fG2, fG3, fG4, fG5, fG6, fG7⟩, _, fGl⟩ := box_eight (sc.getBox 4 rfl)
  obtain ⟨⟨fR0, fR1, fR2, fR3, fR4, fR5, fR6, fR7⟩, _, fRl⟩ := box_eight (sc.getBox 8 rfl)
  go_wp2_with fail
  clear fG0 fG1 fG2 fG3 fG4 fG5 fG6 fG7 fGl fR0 fR1 fR2 fR3 fR4 fR5 fR6 fR7 fRl
  replace sc := sc.box 29 #[.int .i64 V, .int .i64 N, .int .i64 P, .int .i64 M, .int .i64 K, .slice AH Ws.length cH, .int .i64 H, .slice BH Vs.length dH]
  generalize w15.alloc (Obj.cells #[.int .i64 V, .int .i64 N, .int .i64 P, .int .i64 M, .int .i64 K, .slice AH Ws.length cH, .int .i64 H, .slice BH Vs.length dH] 29) = w16 at *
  generalize w15.heap.size = sH at *
  refine (eqSparse_true _ _ _ _ _ _ _ _ _ _ _ _ _ _ Ws Vs _ (sc.lies 2 rfl) (sc.lies 11 rfl) (sc.lies 1 rfl) (sc.lies 10 rfl) (by omega) (by omega)).mono ?_
  rintro e w17 ⟨rfl, hb⟩
  replace sc := sc.step hb
  clear hb
  have t1H17 : (ok != ok) = false := by simp
  obtain ⟨⟨fH0, fH1, fH2, fH3, fH4, fH5, fH6, fH7⟩, _, fHl⟩ := box_eight (sc.getBox 0 rfl)
  obtain ⟨⟨fG0, fG1, fG2, fG3, fG4, fG5, fG6, fG7⟩, _, fGl⟩ := box_eight (sc.getBox 5 rfl)
  obtain ⟨⟨fR0, fR1, fR2, fR3, fR4, fR5, fR6, fR7⟩, _, fRl⟩ := box_eight (sc.getBox 9 rfl)
  go_wp2_with fail
  clear fH0 fH1 fH2 fH3 fH4 fH5 fH6 fH7 fHl fG0 fG1 fG2 fG3 fG4 fG5 fG6 fG7 fGl fR0 fR1 fR2 fR3 fR4 fR5 fR6 fR7 fRl
  refine (heldSparse_any _ _ _ _ _ _ _ _ _ _ _ _ 1 _ (lies_ints (sc.getRow 7 rfl)) (lies_ints (sc.getRow 6 rfl)) (by omega) (by omega) (by omega) (by omega)).mono ?_
  rintro e w18 ⟨rfl, hb⟩
  replace sc := sc.step hb
  clear hb
  have HB := Lib.hid sc.below
  clear sc
  go_wp2
  go_ret
  exact ⟨rfl, HB.out⟩

end Go.Proofs.Ytanllfidbhjboaa
