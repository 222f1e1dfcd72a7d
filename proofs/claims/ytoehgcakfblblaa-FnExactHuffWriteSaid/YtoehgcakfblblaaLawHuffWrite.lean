/- The law FnExactHuffWrite walked (written by mklaws11.py). -/
import Derived.Test.YtoehgcakfblblaaHw2
import Derived.Test.YtoehgcakfblblaaHw3
import Derived.Test.YtoehgcakfblblaaStage
import Derived.Test.YtoehgcakfblblaaWords2
import Derived.Test.YtoehgcakfblblaaNew2
import Derived.Test.YtoehgcakfblblaaIntsW
namespace Go.Proofs.Ytoehgcakfblblaa
open Go.RowKit
set_option maxRecDepth 100000

set_option maxHeartbeats 1600000 in
theorem lawHuffWrite (A0 : Option Addr) (c0 : Nat) (L0 : List Int) (A1 : Option Addr) (c1 : Nat) (L1 : List Int) (w : World) (hL0 : Lies w I A0 L0) (hL1 : Lies w I A1 L1) (hbig0 : L0.length ≤ 1048576) (hbig1 : L1.length ≤ 1048576) :
    Calls Try.prog 12 #[.slice A0 L0.length c0, .slice A1 L1.length c1] w fun e w' => e = .returned (.bool true) ∧ Below w.heap.size w w' := by
  have HL0 := Lib.hid hL0
  clear hL0
  have HL1 := Lib.hid hL1
  clear hL1
  have hWl := resW_len (hwV L0 L1)
  have SP : Hid (∀ (W : World) (A B : Option Addr) (c d : Nat), Lies W I A L0 → Lies W I B L1 → Calls Try.prog 29 #[.slice A L0.length c, .slice B L1.length d] W (NewBits W (resN (hwV L0 L1)) (resW (hwV L0 L1)) (okBits (hwV L0 L1)))) := Lib.hid fun W A B c d h1 h2 => specHuffWrite_any A B c d L0 L1 W h1 h2
  have IM : Hid (∀ (W : World) (A B : Option Addr) (c d : Nat), Lies W I A L0 → Lies W I B L1 → Calls Try.prog 30 #[.slice A L0.length c, .slice B L1.length d] W (NewBits W (resN (hwV L0 L1)) (resW (hwV L0 L1)) (okBits (hwV L0 L1)))) := Lib.hid fun W A B c d h1 h2 => implHuffWrite_any A B c d L0 L1 W h1 h2 (by omega)
  generalize resN (hwV L0 L1) = N at *
  generalize resW (hwV L0 L1) = Ws at *
  generalize okBits (hwV L0 L1) = ok at *
  have tok : (ok != ok) = false := by simp
  have hs0 : (0 : Int) ≤ 1 := by omega
  go_enter Try.func12, Try.ntmps12
  have sc : Stage w w [] := Stage.start w
  have hnd0 : decide ((1048576 : Int) < (L0.length : Int)) = false := by simp; omega
  have hnd1 : decide ((1048576 : Int) < (L1.length : Int)) = false := by simp; omega
  go_wp2_with fail
  refine (toIntI A0 c0 L0 _ (sc.liesOld HL0.out) (by omega)).mono ?_
  rintro e w1 ⟨Ap0, cp0, rfl, ho, hb⟩
  replace sc := sc.row hb ho
  clear hb ho
  go_wp2_with fail
  refine (toIntI A1 c1 L1 _ (sc.liesOld HL1.out) (by omega)).mono ?_
  rintro e w2 ⟨Ap1, cp1, rfl, ho, hb⟩
  replace sc := sc.row hb ho
  clear hb ho
  go_wp2_with fail
  refine (SP.out _ _ _ _ _ (by exact sc.lies 1 rfl) (by exact sc.lies 0 rfl)).mono ?_
  rintro e w3 ⟨AR, cR, rfl, ho, hb⟩
  replace sc := sc.row hb ho
  clear hb ho
  go_wp2_with fail
  replace sc := sc.box 44 #[.int .i64 N, .slice AR Ws.length cR]
  generalize w3.alloc (Obj.cells #[.int .i64 N, .slice AR Ws.length cR] 44) = w4 at *
  generalize w3.heap.size = sR at *
  clear hnd0 hnd1
  refine (toIntI A0 c0 L0 _ (sc.liesOld HL0.out) (by omega)).mono ?_
  rintro e w5 ⟨Ax0, cx0, rfl, ho, hb⟩
  replace sc := sc.row hb ho
  clear hb ho
  obtain ⟨fBR0, fBR1, fBRl⟩ := sc.two 1 rfl
  go_wp2_with fail
  clear fBR0 fBR1 fBRl
  refine (toIntI A1 c1 L1 _ (sc.liesOld HL1.out) (by omega)).mono ?_
  rintro e w6 ⟨Ax1, cx1, rfl, ho, hb⟩
  replace sc := sc.row hb ho
  clear hb ho
  obtain ⟨fBR0, fBR1, fBRl⟩ := sc.two 2 rfl
  go_wp2_with fail
  clear fBR0 fBR1 fBRl
  refine (IM.out _ _ _ _ _ (by exact sc.lies 1 rfl) (by exact sc.lies 0 rfl)).mono ?_
  rintro e w7 ⟨AG, cG, rfl, ho, hb⟩
  replace sc := sc.row hb ho
  clear hb ho
  obtain ⟨fBR0, fBR1, fBRl⟩ := sc.two 3 rfl
  go_wp2_with fail
  clear fBR0 fBR1 fBRl
  replace sc := sc.box 44 #[.int .i64 N, .slice AG Ws.length cG]
  generalize w7.alloc (Obj.cells #[.int .i64 N, .slice AG Ws.length cG] 44) = w8 at *
  generalize w7.heap.size = sG at *
  refine (eqBits_true _ _ _ _ _ Ws _ (sc.lies 1 rfl) (sc.lies 5 rfl) (by omega)).mono ?_
  rintro e w9 ⟨rfl, hb⟩
  replace sc := sc.step hb
  clear hb
  obtain ⟨fBG0, fBG1, fBGl⟩ := sc.two 0 rfl
  obtain ⟨fBR0, fBR1, fBRl⟩ := sc.two 4 rfl
  go_wp2_with fail
  clear fBG0 fBG1 fBGl fBR0 fBR1 fBRl
  refine (toIntI A0 c0 L0 _ (sc.liesOld HL0.out) (by omega)).mono ?_
  rintro e w10 ⟨Ay0, cy0, rfl, ho, hb⟩
  replace sc := sc.row hb ho
  clear hb ho
  obtain ⟨fBG0, fBG1, fBGl⟩ := sc.two 1 rfl
  obtain ⟨fBR0, fBR1, fBRl⟩ := sc.two 5 rfl
  go_wp2_with fail
  clear fBG0 fBG1 fBGl fBR0 fBR1 fBRl
  refine (eqInt _ _ _ _ L0 L0 _ (sc.lies 4 rfl) (sc.lies 0 rfl) (by omega)).mono ?_
  rintro e w11 ⟨rfl, qw11, rfl⟩
  first | rw [decide_eq_true rfl] | simp only [decide_true]
  replace sc := sc.draw qw11
  generalize w10.drewN qw11 = w11 at *
  obtain ⟨fBG0, fBG1, fBGl⟩ := sc.two 1 rfl
  obtain ⟨fBR0, fBR1, fBRl⟩ := sc.two 5 rfl
  go_wp2_with fail
  clear fBG0 fBG1 fBGl fBR0 fBR1 fBRl
  refine (toIntI A1 c1 L1 _ (sc.liesOld HL1.out) (by omega)).mono ?_
  rintro e w12 ⟨Ay1, cy1, rfl, ho, hb⟩
  replace sc := sc.row hb ho
  clear hb ho
  obtain ⟨fBG0, fBG1, fBGl⟩ := sc.two 2 rfl
  obtain ⟨fBR0, fBR1, fBRl⟩ := sc.two 6 rfl
  go_wp2_with fail
  clear fBG0 fBG1 fBGl fBR0 fBR1 fBRl
  refine (eqInt _ _ _ _ L1 L1 _ (sc.lies 4 rfl) (sc.lies 0 rfl) (by omega)).mono ?_
  rintro e w13 ⟨rfl, qw13, rfl⟩
  first | rw [decide_eq_true rfl] | simp only [decide_true]
  replace sc := sc.draw qw13
  generalize w12.drewN qw13 = w13 at *
  obtain ⟨fBG0, fBG1, fBGl⟩ := sc.two 2 rfl
  obtain ⟨fBR0, fBR1, fBRl⟩ := sc.two 6 rfl
  go_wp2_with fail
  clear fBG0 fBG1 fBGl fBR0 fBR1 fBRl
  refine (markIntw _ _ _ 0 (1) _ _ (sc.getRow 5 rfl) (by omega) (by omega) (by omega)).mono ?_
  rintro e w14 ⟨rfl, ho, hg⟩
  replace sc := sc.mark 5 rfl hg ho
  clear ho hg
  simp only [List.set_cons_zero, List.set_cons_succ] at sc
  obtain ⟨fBG0, fBG1, fBGl⟩ := sc.two 2 rfl
  obtain ⟨fBR0, fBR1, fBRl⟩ := sc.two 6 rfl
  go_wp2_with fail
  clear fBG0 fBG1 fBGl fBR0 fBR1 fBRl
  refine (markIntw _ _ _ 0 (1 + (L0.length : Int)) _ _ (sc.getRow 4 rfl) (by omega) (by omega) (by omega)).mono ?_
  rintro e w15 ⟨rfl, ho, hg⟩
  replace sc := sc.mark 4 rfl hg ho
  clear ho hg
  simp only [List.set_cons_zero, List.set_cons_succ] at sc
  have dk : decide ((1 + (L0.length : Int) + (L1.length : Int) : Int) < 0) = false := by simp; omega
  obtain ⟨fBG0, fBG1, fBGl⟩ := sc.two 2 rfl
  obtain ⟨fBR0, fBR1, fBRl⟩ := sc.two 6 rfl
  go_wp2_with fail
  clear fBG0 fBG1 fBGl fBR0 fBR1 fBRl
  refine (eqBits_true _ _ _ _ _ Ws _ (sc.lies 3 rfl) (sc.lies 7 rfl) (by omega)).mono ?_
  rintro e w16 ⟨rfl, hb⟩
  replace sc := sc.step hb
  clear hb
  clear dk
  obtain ⟨fBG0, fBG1, fBGl⟩ := sc.two 2 rfl
  obtain ⟨fBR0, fBR1, fBRl⟩ := sc.two 6 rfl
  go_wp2_with fail
  clear fBG0 fBG1 fBGl fBR0 fBR1 fBRl
  refine (markBits_wide _ _ _ _ 0 (1) _ _ (sc.getRow 3 rfl) (by omega) (by omega) (by omega)).mono ?_
  rintro e w17 ⟨rfl, ho, hg⟩
  replace sc := sc.mark 3 rfl hg ho
  clear ho hg
  simp only [List.set_cons_zero, List.set_cons_succ] at sc
  obtain ⟨fBG0, fBG1, fBGl⟩ := sc.two 2 rfl
  obtain ⟨fBR0, fBR1, fBRl⟩ := sc.two 6 rfl
  go_wp2_with fail
  clear fBG0 fBG1 fBGl fBR0 fBR1 fBRl
  refine (heldBits_any _ _ _ _ 1 _ (lies_ints (sc.getRow 3 rfl)) (by omega) (by omega) (by omega)).mono ?_
  rintro e w18 ⟨rfl, hb⟩
  replace sc := sc.step hb
  clear hb
  have dq : decide ((1 : Int) + 1 + (Ws.length : Int) < 0) = false := by simp; omega
  have dq2 : ¬ ((1 : Int) + 1 + (Ws.length : Int) < 0) := by omega
  have dq3 : decide ((1 : Int) + (Ws.length : Int) < 0) = false := by simp; omega
  have dq4 : ¬ ((1 : Int) + (Ws.length : Int) < 0) := by omega
  obtain ⟨fBG0, fBG1, fBGl⟩ := sc.two 2 rfl
  obtain ⟨fBR0, fBR1, fBRl⟩ := sc.two 6 rfl
  go_wp2_with fail
  clear fBG0 fBG1 fBGl fBR0 fBR1 fBRl
  refine (toIntI A0 c0 L0 _ (sc.liesOld HL0.out) (by omega)).mono ?_
  rintro e w19 ⟨Aq0, cq0, rfl, ho, hb⟩
  replace sc := sc.row hb ho
  clear hb ho
  obtain ⟨fBG0, fBG1, fBGl⟩ := sc.two 3 rfl
  obtain ⟨fBR0, fBR1, fBRl⟩ := sc.two 7 rfl
  go_wp2_with fail
  clear fBG0 fBG1 fBGl fBR0 fBR1 fBRl
  refine (toIntI A1 c1 L1 _ (sc.liesOld HL1.out) (by omega)).mono ?_
  rintro e w20 ⟨Aq1, cq1, rfl, ho, hb⟩
  replace sc := sc.row hb ho
  clear hb ho
  obtain ⟨fBG0, fBG1, fBGl⟩ := sc.two 4 rfl
  obtain ⟨fBR0, fBR1, fBRl⟩ := sc.two 8 rfl
  go_wp2_with fail
  clear fBG0 fBG1 fBGl fBR0 fBR1 fBRl
  refine (IM.out _ _ _ _ _ (by exact sc.lies 1 rfl) (by exact sc.lies 0 rfl)).mono ?_
  rintro e w21 ⟨AH, cH, rfl, ho, hb⟩
  replace sc := sc.row hb ho
  clear hb ho
  obtain ⟨fBG0, fBG1, fBGl⟩ := sc.two 5 rfl
  obtain ⟨fBR0, fBR1, fBRl⟩ := sc.two 9 rfl
  go_wp2_with fail
  clear fBG0 fBG1 fBGl fBR0 fBR1 fBRl
  replace sc := sc.box 44 #[.int .i64 N, .slice AH Ws.length cH]
  generalize w21.alloc (Obj.cells #[.int .i64 N, .slice AH Ws.length cH] 44) = w22 at *
  generalize w21.heap.size = sH at *
  refine (eqBits_true _ _ _ _ _ Ws _ (sc.lies 1 rfl) (sc.lies 11 rfl) (by omega)).mono ?_
  rintro e w23 ⟨rfl, hb⟩
  replace sc := sc.step hb
  clear hb
  obtain ⟨fBH0, fBH1, fBHl⟩ := sc.two 0 rfl
  obtain ⟨fBG0, fBG1, fBGl⟩ := sc.two 6 rfl
  obtain ⟨fBR0, fBR1, fBRl⟩ := sc.two 10 rfl
  go_wp2_with fail
  clear fBH0 fBH1 fBHl fBG0 fBG1 fBGl fBR0 fBR1 fBRl
  refine (heldBits_any _ _ _ _ 1 _ (lies_ints (sc.getRow 7 rfl)) (by omega) (by omega) (by omega)).mono ?_
  rintro e w24 ⟨rfl, hb⟩
  replace sc := sc.step hb
  clear hb
  have HB := Lib.hid sc.below
  clear sc
  go_wp2
  go_ret
  exact ⟨rfl, HB.out⟩

end Go.Proofs.Ytoehgcakfblblaa
