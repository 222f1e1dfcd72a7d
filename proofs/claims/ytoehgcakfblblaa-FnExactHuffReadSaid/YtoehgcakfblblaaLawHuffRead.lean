/- The law FnExactHuffRead walked (written by mklaws12.py). -/
import Derived.Test.YtoehgcakfblblaaHr4
import Derived.Test.YtoehgcakfblblaaStage
import Derived.Test.YtoehgcakfblblaaWords2
import Derived.Test.YtoehgcakfblblaaNew2
import Derived.Test.YtoehgcakfblblaaIntsW
import Derived.Test.YtoehgcakfblblaaLaws5
namespace Go.Proofs.Ytoehgcakfblblaa
open Go.RowKit
set_option maxRecDepth 100000

theorem hr_len (N : Int) (W : List Nat) (L : List Int) (z : Int) : (hrL (okB N W) L (bitsOf N.toNat W) z).length ≤ 5000 := by
  by_cases h : ∃ D, HrD (okB N W) L (bitsOf N.toNat W) z D
  · obtain ⟨D, hD⟩ := h
    rw [(hr_yes hD).1]
    obtain ⟨n, rfl, hn, _, _⟩ := okB_nat hD.1
    have h1 := hwr_ge hD.2.1 D hD.2.2.1
    rw [hD.2.2.2.1, bitsOf_len] at h1
    omega
  · rw [(hr_no (fun D hD => h ⟨D, hD⟩)).1]
    simp

set_option maxHeartbeats 1600000 in
theorem lawHuffRead (N0 : Int) (A0 : Option Addr) (c0 : Nat) (L0 : List Nat) (A1 : Option Addr) (c1 : Nat) (L1 : List Int) (n2 : Int) (w : World) (hL0 : Lies w U A0 L0) (hL1 : Lies w I A1 L1) (hw0 : ∀ x ∈ L0, x < 2 ^ 64) (hbig0 : L0.length ≤ 1048576) (hbig1 : L1.length ≤ 1048576) :
    Calls Try.prog 13 #[.agg #[.int .i64 N0, .slice A0 L0.length c0], .slice A1 L1.length c1, .int .i64 n2] w fun e w' => e = .returned (.bool true) ∧ Below w.heap.size w w' := by
  have HL0 := Lib.hid hL0
  have HL1 := Lib.hid hL1
  clear hL0 hL1
  have hMl := hr_len N0 L0 L1 n2
  obtain ⟨M, hM⟩ : ∃ M, hrL (okB N0 L0) L1 (bitsOf N0.toNat L0) n2 = M := ⟨_, rfl⟩
  obtain ⟨ok, hok⟩ : ∃ ok, hrOk (okB N0 L0) L1 (bitsOf N0.toNat L0) n2 = ok := ⟨_, rfl⟩
  have SP : Hid (∀ (W : World) (A B : Option Addr) (c d : Nat), Lies W U A L0 → Lies W I B L1 → Calls Try.prog 49 #[.agg #[.int .i64 N0, .slice A L0.length c], .slice B L1.length d, .int .i64 n2] W (fun e w' => ∃ A c, e = .returned (.tuple #[.slice A M.length c, .bool ok]) ∧ w'.ownsRow W.heap.size 3 1 (.slice A M.length c) M.length (M.map I) ∧ Below W.heap.size W w')) := Lib.hid fun W A B c d h1 h2 => by
    have h := specHuffRead_any N0 A B c d n2 L0 L1 W h1 h2 hw0
    unfold HrPost at h
    rw [hM, hok] at h
    exact h
  have IM : Hid (∀ (W : World) (A B : Option Addr) (c d : Nat), Lies W U A L0 → Lies W I B L1 → Calls Try.prog 31 #[.agg #[.int .i64 N0, .slice A L0.length c], .slice B L1.length d, .int .i64 n2] W (fun e w' => ∃ A c, e = .returned (.tuple #[.slice A M.length c, .bool ok]) ∧ w'.ownsRow W.heap.size 3 1 (.slice A M.length c) M.length (M.map I) ∧ Below W.heap.size W w')) := Lib.hid fun W A B c d h1 h2 => by
    have h := implHuffRead_any N0 A B c d n2 L0 L1 W h1 h2 hw0
    unfold HrPost at h
    rw [hM, hok] at h
    exact h
  rw [hM] at hMl
  clear hM hok hw0
  have tok : (ok != ok) = false := by simp
  have d1 : decide ((1048576 : Int) < (L1.length : Int)) = false := by simp; omega
  go_enter Try.func13, Try.ntmps13
  have sc : Stage w w [] := Stage.start w
  go_wp2_with fail
  replace sc := sc.box 54 #[.int .i64 N0, .slice A0 L0.length c0]
  generalize w.alloc (Obj.cells #[.int .i64 N0, .slice A0 L0.length c0] 54) = w1 at *
  have cz := szBits_any N0 A0 L0.length c0 (1048576) w1 (by omega) (by omega) (by omega)
  rw [if_neg (show ¬ (1048576 : Int) < (L0.length : Int) by omega)] at cz
  refine cz.mono ?_
  rintro e w2 ⟨rfl, hb⟩
  clear cz
  replace sc := sc.step hb
  clear hb
  have hnz : ¬ ((1048576 : Int) - (L0.length : Int) < 0) := by omega
  have hnd : decide ((1048576 : Int) - (L0.length : Int) < 0) = false := by simp; omega
  obtain ⟨fa00, fa01, fa0l⟩ := sc.two 0 rfl
  go_wp2_with fail
  clear fa00 fa01 fa0l
  refine (toBits_new N0 A0 c0 L0 _ (sc.liesOld HL0.out) (by omega)).mono ?_
  rintro e w3 ⟨Ap0, cp0, rfl, ho, hb⟩
  replace sc := sc.row hb ho
  clear hb ho
  clear hnz hnd d1
  obtain ⟨fa00, fa01, fa0l⟩ := sc.two 1 rfl
  go_wp2_with fail
  clear fa00 fa01 fa0l
  refine (toIntI A1 c1 L1 _ (sc.liesOld HL1.out) (by omega)).mono ?_
  rintro e w4 ⟨Ap1, cp1, rfl, ho, hb⟩
  replace sc := sc.row hb ho
  clear hb ho
  obtain ⟨fa00, fa01, fa0l⟩ := sc.two 2 rfl
  go_wp2_with fail
  clear fa00 fa01 fa0l
  refine (SP.out _ _ _ _ _ (by exact sc.lies 1 rfl) (by exact sc.lies 0 rfl)).mono ?_
  rintro e w5 ⟨AR, cR, rfl, ho, hb⟩
  replace sc := sc.row hb ho
  clear hb ho
  obtain ⟨fa00, fa01, fa0l⟩ := sc.two 3 rfl
  go_wp2_with fail
  clear fa00 fa01 fa0l
  refine (toBits_new N0 A0 c0 L0 _ (sc.liesOld HL0.out) (by omega)).mono ?_
  rintro e w6 ⟨Ax0, cx0, rfl, ho, hb⟩
  replace sc := sc.row hb ho
  clear hb ho
  obtain ⟨fa00, fa01, fa0l⟩ := sc.two 4 rfl
  go_wp2_with fail
  clear fa00 fa01 fa0l
  replace sc := sc.box 44 #[.int .i64 N0, .slice Ax0 L0.length cx0]
  generalize w6.alloc (Obj.cells #[.int .i64 N0, .slice Ax0 L0.length cx0] 44) = w7 at *
  generalize w6.heap.size = sx0 at *
  refine (toIntI A1 c1 L1 _ (sc.liesOld HL1.out) (by omega)).mono ?_
  rintro e w8 ⟨Ax1, cx1, rfl, ho, hb⟩
  replace sc := sc.row hb ho
  clear hb ho
  obtain ⟨fx00, fx01, fx0l⟩ := sc.two 1 rfl
  obtain ⟨fa00, fa01, fa0l⟩ := sc.two 6 rfl
  go_wp2_with fail
  clear fx00 fx01 fx0l fa00 fa01 fa0l
  refine (IM.out _ _ _ _ _ (by exact sc.lies 2 rfl) (by exact sc.lies 0 rfl)).mono ?_
  rintro e w9 ⟨AG, cG, rfl, ho, hb⟩
  replace sc := sc.row hb ho
  clear hb ho
  obtain ⟨fx00, fx01, fx0l⟩ := sc.two 2 rfl
  obtain ⟨fa00, fa01, fa0l⟩ := sc.two 7 rfl
  go_wp2_with fail
  clear fx00 fx01 fx0l fa00 fa01 fa0l
  refine (eqInt _ _ _ _ M M _ (sc.lies 0 rfl) (sc.lies 4 rfl) (by omega)).mono ?_
  rintro e w10 ⟨rfl, qw10, rfl⟩
  first | rw [decide_eq_true rfl] | simp only [decide_true]
  replace sc := sc.draw qw10
  generalize w9.drewN qw10 = w10 at *
  obtain ⟨fx00, fx01, fx0l⟩ := sc.two 2 rfl
  obtain ⟨fa00, fa01, fa0l⟩ := sc.two 7 rfl
  go_wp2_with fail
  replace sc := sc.drew
  go_region_held3 (fun w' => w'.cell? ⟨sx0, 0, none⟩ = some (.int .i64 N0) ∧ w'.cell? ⟨sx0, 1, none⟩ = some (.slice Ax0 L0.length cx0) ∧ w'.cell? ⟨w.heap.size, 0, none⟩ = some (.int .i64 N0) ∧ w'.cell? ⟨w.heap.size, 1, none⟩ = some (.slice A0 L0.length c0)) (first | go_keep | (refine ⟨?_, ?_, ?_, ?_⟩ <;> assumption)) (first | (go_at_call 50; (with_reducible refine (toBits_new N0 A0 c0 L0 _ (by exact sc.liesOld HL0.out) (by omega)).mono ?_); rintro e w11 ⟨Ay0, cy0, rfl, ho, hb⟩; replace sc := sc.row hb ho; clear hb ho; obtain ⟨w11x00, w11x01, w11x0l⟩ := sc.two 3 rfl; obtain ⟨w11a00, w11a01, w11a0l⟩ := sc.two 8 rfl) | (go_at_call 45; (with_reducible refine (eqBits_true _ _ _ _ _ L0 _ (by exact sc.lies 4 rfl) (by exact sc.lies 0 rfl) (by omega)).mono ?_); rintro e w12 ⟨rfl, hb⟩; replace sc := sc.step hb; clear hb; obtain ⟨w12x00, w12x01, w12x0l⟩ := sc.two 3 rfl; obtain ⟨w12a00, w12a01, w12a0l⟩ := sc.two 8 rfl))
  obtain ⟨fx00, fx01, fx0l⟩ := sc.two 3 rfl
  obtain ⟨fa00, fa01, fa0l⟩ := sc.two 8 rfl
  go_wp2_with fail
  clear fx00 fx01 fx0l fa00 fa01 fa0l
  refine (toIntI A1 c1 L1 _ (sc.liesOld HL1.out) (by omega)).mono ?_
  rintro e w13 ⟨Ay1, cy1, rfl, ho, hb⟩
  replace sc := sc.row hb ho
  clear hb ho
  obtain ⟨fx00, fx01, fx0l⟩ := sc.two 4 rfl
  obtain ⟨fa00, fa01, fa0l⟩ := sc.two 9 rfl
  go_wp2_with fail
  clear fx00 fx01 fx0l fa00 fa01 fa0l
  refine (eqInt _ _ _ _ L1 L1 _ (sc.lies 3 rfl) (sc.lies 0 rfl) (by omega)).mono ?_
  rintro e w14 ⟨rfl, qw14, rfl⟩
  first | rw [decide_eq_true rfl] | simp only [decide_true]
  replace sc := sc.draw qw14
  generalize w13.drewN qw14 = w14 at *
  obtain ⟨fx00, fx01, fx0l⟩ := sc.two 4 rfl
  obtain ⟨fa00, fa01, fa0l⟩ := sc.two 9 rfl
  go_wp2_with fail
  clear fx00 fx01 fx0l fa00 fa01 fa0l
  refine (markBits_wide _ _ _ _ 0 (1) _ _ (sc.getRow 5 rfl) (by omega) (by omega) (by omega)).mono ?_
  rintro e w15 ⟨rfl, ho, hg⟩
  replace sc := sc.mark 5 rfl hg ho
  clear ho hg
  simp only [List.set_cons_zero, List.set_cons_succ] at sc
  obtain ⟨fx00, fx01, fx0l⟩ := sc.two 4 rfl
  obtain ⟨fa00, fa01, fa0l⟩ := sc.two 9 rfl
  go_wp2_with fail
  clear fx00 fx01 fx0l fa00 fa01 fa0l
  refine (markIntw _ _ _ 0 (1 + (L0.length : Int)) _ _ (sc.getRow 3 rfl) (by omega) (by omega) (by omega)).mono ?_
  rintro e w16 ⟨rfl, ho, hg⟩
  replace sc := sc.mark 3 rfl hg ho
  clear ho hg
  simp only [List.set_cons_zero, List.set_cons_succ] at sc
  have dk : decide ((1 + (L0.length : Int) + (L1.length : Int) : Int) < 0) = false := by simp; omega
  obtain ⟨fx00, fx01, fx0l⟩ := sc.two 4 rfl
  obtain ⟨fa00, fa01, fa0l⟩ := sc.two 9 rfl
  go_wp2_with fail
  clear fx00 fx01 fx0l fa00 fa01 fa0l
  refine (eqInt _ _ _ _ M M _ (sc.lies 2 rfl) (sc.lies 6 rfl) (by omega)).mono ?_
  rintro e w17 ⟨rfl, qw17, rfl⟩
  first | rw [decide_eq_true rfl] | simp only [decide_true]
  replace sc := sc.draw qw17
  generalize w16.drewN qw17 = w17 at *
  clear dk
  obtain ⟨fx00, fx01, fx0l⟩ := sc.two 4 rfl
  obtain ⟨fa00, fa01, fa0l⟩ := sc.two 9 rfl
  go_wp2_with fail
  clear fx00 fx01 fx0l fa00 fa01 fa0l
  refine (markInt _ _ _ 0 (1) _ _ (sc.getRow 2 rfl) (by omega) (by omega) (by omega)).mono ?_
  rintro e w18 ⟨rfl, ho, hg⟩
  replace sc := sc.mark 2 rfl hg ho
  clear ho hg
  simp only [List.set_cons_zero, List.set_cons_succ] at sc
  obtain ⟨fx00, fx01, fx0l⟩ := sc.two 4 rfl
  obtain ⟨fa00, fa01, fa0l⟩ := sc.two 9 rfl
  go_wp2_with fail
  clear fx00 fx01 fx0l fa00 fa01 fa0l
  refine (heldInt _ _ _ 1 _ (lies_ints (sc.getRow 2 rfl)) (by omega) (by omega) (by omega)).mono ?_
  rintro e w19 ⟨rfl, rfl⟩
  have dq : decide ((1 : Int) + (M.length : Int) < 0) = false := by simp; omega
  have dq2 : ¬ ((1 : Int) + (M.length : Int) < 0) := by omega
  obtain ⟨fx00, fx01, fx0l⟩ := sc.two 4 rfl
  obtain ⟨fa00, fa01, fa0l⟩ := sc.two 9 rfl
  go_wp2_with fail
  clear fx00 fx01 fx0l fa00 fa01 fa0l
  refine (toBits_new N0 A0 c0 L0 _ (sc.liesOld HL0.out) (by omega)).mono ?_
  rintro e w20 ⟨Aq0, cq0, rfl, ho, hb⟩
  replace sc := sc.row hb ho
  clear hb ho
  obtain ⟨fx00, fx01, fx0l⟩ := sc.two 5 rfl
  obtain ⟨fa00, fa01, fa0l⟩ := sc.two 10 rfl
  go_wp2_with fail
  clear fx00 fx01 fx0l fa00 fa01 fa0l
  refine (toIntI A1 c1 L1 _ (sc.liesOld HL1.out) (by omega)).mono ?_
  rintro e w21 ⟨Aq1, cq1, rfl, ho, hb⟩
  replace sc := sc.row hb ho
  clear hb ho
  obtain ⟨fx00, fx01, fx0l⟩ := sc.two 6 rfl
  obtain ⟨fa00, fa01, fa0l⟩ := sc.two 11 rfl
  go_wp2_with fail
  clear fx00 fx01 fx0l fa00 fa01 fa0l
  refine (IM.out _ _ _ _ _ (by exact sc.lies 1 rfl) (by exact sc.lies 0 rfl)).mono ?_
  rintro e w22 ⟨AH, cH, rfl, ho, hb⟩
  replace sc := sc.row hb ho
  clear hb ho
  obtain ⟨fx00, fx01, fx0l⟩ := sc.two 7 rfl
  obtain ⟨fa00, fa01, fa0l⟩ := sc.two 12 rfl
  go_wp2_with fail
  clear fx00 fx01 fx0l fa00 fa01 fa0l
  refine (eqInt _ _ _ _ M M _ (sc.lies 0 rfl) (sc.lies 9 rfl) (by omega)).mono ?_
  rintro e w23 ⟨rfl, qw23, rfl⟩
  first | rw [decide_eq_true rfl] | simp only [decide_true]
  replace sc := sc.draw qw23
  generalize w22.drewN qw23 = w23 at *
  obtain ⟨fx00, fx01, fx0l⟩ := sc.two 7 rfl
  obtain ⟨fa00, fa01, fa0l⟩ := sc.two 12 rfl
  go_wp2_with fail
  clear fx00 fx01 fx0l fa00 fa01 fa0l
  refine (heldInt _ _ _ 1 _ (lies_ints (sc.getRow 5 rfl)) (by omega) (by omega) (by omega)).mono ?_
  rintro e w24 ⟨rfl, rfl⟩
  have HB := Lib.hid sc.below
  clear sc
  go_wp2
  go_ret
  exact ⟨rfl, HB.out⟩

end Go.Proofs.Ytoehgcakfblblaa
