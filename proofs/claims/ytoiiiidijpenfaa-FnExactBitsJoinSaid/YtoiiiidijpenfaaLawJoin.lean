/- The law FnExactBitsJoin walked (written by lawgen.py). -/
import Derived.Test.YtoiiiidijpenfaaNew2
import Derived.Test.YtoiiiidijpenfaaJoin5
import Derived.Test.YtoiiiidijpenfaaStage
import Derived.Test.YtoiiiidijpenfaaWords2
namespace Go.Proofs.Ytoiiiidijpenfaa
open Go.RowKit

set_option maxHeartbeats 1600000 in
theorem lawJoin (N0 : Int) (A0 : Option Addr) (c0 : Nat) (L0 : List Nat) (N1 : Int) (A1 : Option Addr) (c1 : Nat) (L1 : List Nat) (w : World) (hL0 : Lies w U A0 L0) (hL1 : Lies w U A1 L1) (hw0 : ∀ x ∈ L0, x < 2 ^ 64) (hw1 : ∀ x ∈ L1, x < 2 ^ 64) (hbig : L0.length + L1.length ≤ 1048576) :
    Calls Try.prog 9 #[.agg #[.int .i64 N0, .slice A0 L0.length c0], .agg #[.int .i64 N1, .slice A1 L1.length c1]] w fun e w' => e = .returned (.bool true) ∧ Below w.heap.size w w' := by
  have HL0 := Lib.hid hL0
  clear hL0
  have HW0 := Lib.hid hw0
  clear hw0
  have HL1 := Lib.hid hL1
  clear hL1
  have HW1 := Lib.hid hw1
  clear hw1
  have hFl := jW_len N0 L0 N1 L1
  go_enter Try.func9, Try.ntmps9
  have sc : Stage w w [] := Stage.start w
  go_wp2_with fail
  replace sc := sc.box 42 #[.int .i64 N0, .slice A0 L0.length c0]
  replace sc := sc.box 42 #[.int .i64 N1, .slice A1 L1.length c1]
  generalize ((w.alloc (Obj.cells #[.int .i64 N0, .slice A0 L0.length c0] 42)).alloc (Obj.cells #[.int .i64 N1, .slice A1 L1.length c1] 42)) = w3 at *
  simp only [World.size_alloc] at sc
  have cz := szBits_any N0 A0 L0.length c0 (1048576) w3 (by omega) (by omega) (by omega)
  rw [if_neg (show ¬ (1048576 : Int) < (L0.length : Int) by omega)] at cz
  refine cz.mono ?_
  rintro e w4 ⟨rfl, hb⟩
  clear cz
  replace sc := sc.step hb
  clear hb
  have hnz : ¬ (1048576 - (L0.length : Int) < 0) := by omega
  have hnd : decide (1048576 - (L0.length : Int) < 0) = false := by simp; omega
  obtain ⟨fa10, fa11, fa1l⟩ := sc.two 0 rfl
  obtain ⟨fa00, fa01, fa0l⟩ := sc.two 1 rfl
  go_wp2_with fail
  clear fa10 fa11 fa1l fa00 fa01 fa0l
  clear hnz hnd
  have cz := szBits_any N1 A1 L1.length c1 (1048576 - (L0.length : Int)) w4 (by omega) (by omega) (by omega)
  rw [if_neg (show ¬ (1048576 - (L0.length : Int) : Int) < (L1.length : Int) by omega)] at cz
  refine cz.mono ?_
  rintro e w5 ⟨rfl, hb⟩
  clear cz
  replace sc := sc.step hb
  clear hb
  have hnz : ¬ (1048576 - (L0.length : Int) - (L1.length : Int) < 0) := by omega
  have hnd : decide (1048576 - (L0.length : Int) - (L1.length : Int) < 0) = false := by simp; omega
  obtain ⟨fa10, fa11, fa1l⟩ := sc.two 0 rfl
  obtain ⟨fa00, fa01, fa0l⟩ := sc.two 1 rfl
  go_wp2_with fail
  replace sc := sc.drew
  apply cut_at sc (jN N0 L0 N1 L1) (jW N0 L0 N1 L1)
  case main =>
    intro key
    have HKey := Lib.hid key
    clear key
    go_region_held3 (fun w' => w'.cell? ⟨w.heap.size, 0, none⟩ = some (.int .i64 N0) ∧ w'.cell? ⟨w.heap.size, 1, none⟩ = some (.slice A0 L0.length c0) ∧ w'.cell? ⟨w.heap.size + 1, 0, none⟩ = some (.int .i64 N1) ∧ w'.cell? ⟨w.heap.size + 1, 1, none⟩ = some (.slice A1 L1.length c1)) (first | (refine ⟨?_, ?_, ?_, ?_⟩ <;> assumption) | (refine ⟨?_, ?_, ?_, ?_⟩ <;> (refine keep2 ?_ ?_ ?_; assumption; omega; omega)) | go_keep) (first | (go_at_call 30; (with_reducible refine Calls.mono (toBits_new N0 A0 c0 L0 _ ?_ (by omega)) ?_); exact sc.liesOld HL0.out; rintro e w6 ⟨Ap0, cp0, rfl, ho, hb⟩; replace sc := sc.row hb ho; clear hb ho; obtain ⟨w6a00, w6a01, w6a0l⟩ : w6.cell? ⟨w.heap.size, 0, none⟩ = some (.int .i64 N0) ∧ w6.cell? ⟨w.heap.size, 1, none⟩ = some (.slice A0 L0.length c0) ∧ w.heap.size < w6.heap.size := (by first | exact sc.two 2 rfl | exact sc.two 3 rfl); obtain ⟨w6a10, w6a11, w6a1l⟩ : w6.cell? ⟨w.heap.size + 1, 0, none⟩ = some (.int .i64 N1) ∧ w6.cell? ⟨w.heap.size + 1, 1, none⟩ = some (.slice A1 L1.length c1) ∧ w.heap.size + 1 < w6.heap.size := (by first | exact sc.two 1 rfl | exact sc.two 2 rfl)) | (go_at_call 30; replace sc := sc.box 26 #[.int .i64 0, .slice none 0 0]; (with_reducible refine Calls.mono (toBits_new N0 A0 c0 L0 _ ?_ (by omega)) ?_); exact sc.liesOld HL0.out; rintro e w6 ⟨Ap0, cp0, rfl, ho, hb⟩; replace sc := sc.row hb ho; clear hb ho; obtain ⟨w6a00, w6a01, w6a0l⟩ : w6.cell? ⟨w.heap.size, 0, none⟩ = some (.int .i64 N0) ∧ w6.cell? ⟨w.heap.size, 1, none⟩ = some (.slice A0 L0.length c0) ∧ w.heap.size < w6.heap.size := (by first | exact sc.two 2 rfl | exact sc.two 3 rfl); obtain ⟨w6a10, w6a11, w6a1l⟩ : w6.cell? ⟨w.heap.size + 1, 0, none⟩ = some (.int .i64 N1) ∧ w6.cell? ⟨w.heap.size + 1, 1, none⟩ = some (.slice A1 L1.length c1) ∧ w.heap.size + 1 < w6.heap.size := (by first | exact sc.two 1 rfl | exact sc.two 2 rfl)) | (go_at_call 30; (with_reducible refine Calls.mono (toBits_new N1 A1 c1 L1 _ ?_ (by omega)) ?_); exact sc.liesOld HL1.out; rintro e w7 ⟨Ap1, cp1, rfl, ho, hb⟩; replace sc := sc.row hb ho; clear hb ho; obtain ⟨w7a00, w7a01, w7a0l⟩ : w7.cell? ⟨w.heap.size, 0, none⟩ = some (.int .i64 N0) ∧ w7.cell? ⟨w.heap.size, 1, none⟩ = some (.slice A0 L0.length c0) ∧ w.heap.size < w7.heap.size := (by first | exact sc.two 3 rfl | exact sc.two 4 rfl); obtain ⟨w7a10, w7a11, w7a1l⟩ : w7.cell? ⟨w.heap.size + 1, 0, none⟩ = some (.int .i64 N1) ∧ w7.cell? ⟨w.heap.size + 1, 1, none⟩ = some (.slice A1 L1.length c1) ∧ w.heap.size + 1 < w7.heap.size := (by first | exact sc.two 2 rfl | exact sc.two 3 rfl)) | (go_at_call 30; replace sc := sc.box 26 #[.int .i64 0, .slice none 0 0]; (with_reducible refine Calls.mono (toBits_new N1 A1 c1 L1 _ ?_ (by omega)) ?_); exact sc.liesOld HL1.out; rintro e w7 ⟨Ap1, cp1, rfl, ho, hb⟩; replace sc := sc.row hb ho; clear hb ho; obtain ⟨w7a00, w7a01, w7a0l⟩ : w7.cell? ⟨w.heap.size, 0, none⟩ = some (.int .i64 N0) ∧ w7.cell? ⟨w.heap.size, 1, none⟩ = some (.slice A0 L0.length c0) ∧ w.heap.size < w7.heap.size := (by first | exact sc.two 3 rfl | exact sc.two 4 rfl); obtain ⟨w7a10, w7a11, w7a1l⟩ : w7.cell? ⟨w.heap.size + 1, 0, none⟩ = some (.int .i64 N1) ∧ w7.cell? ⟨w.heap.size + 1, 1, none⟩ = some (.slice A1 L1.length c1) ∧ w.heap.size + 1 < w7.heap.size := (by first | exact sc.two 2 rfl | exact sc.two 3 rfl)) | (go_at_call 13; (with_reducible refine Calls.mono (specJoin_any N0 _ _ L0 N1 _ _ L1 _ ?_ HW0.out ?_ HW1.out) ?_); (first | exact sc.lies 1 rfl | exact sc.lies 2 rfl); (first | exact sc.lies 0 rfl | exact sc.lies 1 rfl); rintro e w8 ⟨AR0, cR0, rfl, ho, hb⟩; replace sc := sc.row hb ho; clear hb ho; obtain ⟨w8a00, w8a01, w8a0l⟩ : w8.cell? ⟨w.heap.size, 0, none⟩ = some (.int .i64 N0) ∧ w8.cell? ⟨w.heap.size, 1, none⟩ = some (.slice A0 L0.length c0) ∧ w.heap.size < w8.heap.size := (by first | exact sc.two 4 rfl | exact sc.two 5 rfl); obtain ⟨w8a10, w8a11, w8a1l⟩ : w8.cell? ⟨w.heap.size + 1, 0, none⟩ = some (.int .i64 N1) ∧ w8.cell? ⟨w.heap.size + 1, 1, none⟩ = some (.slice A1 L1.length c1) ∧ w.heap.size + 1 < w8.heap.size := (by first | exact sc.two 3 rfl | exact sc.two 4 rfl); (first | (obtain ⟨bx0, bx1, bxl⟩ : w8.cell? ⟨w7.heap.size, 0, none⟩ = some (.int .i64 0) ∧ w8.cell? ⟨w7.heap.size, 1, none⟩ = some (.slice none 0 0) ∧ w7.heap.size < w8.heap.size := (by exact sc.two 1 rfl); have bf0 : w8.frozen? ⟨w7.heap.size, 0, none⟩ = false := (sc.getBox 1 rfl).frozen 0; have bf1 : w8.frozen? ⟨w7.heap.size, 1, none⟩ = false := (sc.getBox 1 rfl).frozen 1) | (obtain ⟨bx0, bx1, bxl⟩ : w8.cell? ⟨w6.heap.size, 0, none⟩ = some (.int .i64 0) ∧ w8.cell? ⟨w6.heap.size, 1, none⟩ = some (.slice none 0 0) ∧ w6.heap.size < w8.heap.size := (by exact sc.two 2 rfl); have bf0 : w8.frozen? ⟨w6.heap.size, 0, none⟩ = false := (sc.getBox 2 rfl).frozen 0; have bf1 : w8.frozen? ⟨w6.heap.size, 1, none⟩ = false := (sc.getBox 2 rfl).frozen 1) | (obtain ⟨bx0, bx1, bxl⟩ : w8.cell? ⟨w5.heap.size, 0, none⟩ = some (.int .i64 0) ∧ w8.cell? ⟨w5.heap.size, 1, none⟩ = some (.slice none 0 0) ∧ w5.heap.size < w8.heap.size := (by exact sc.two 3 rfl); have bf0 : w8.frozen? ⟨w5.heap.size, 0, none⟩ = false := (sc.getBox 3 rfl).frozen 0; have bf1 : w8.frozen? ⟨w5.heap.size, 1, none⟩ = false := (sc.getBox 3 rfl).frozen 1) | skip)) | (go_at_call 13; replace sc := sc.box 26 #[.int .i64 0, .slice none 0 0]; (with_reducible refine Calls.mono (specJoin_any N0 _ _ L0 N1 _ _ L1 _ ?_ HW0.out ?_ HW1.out) ?_); (first | exact sc.lies 1 rfl | exact sc.lies 2 rfl); (first | exact sc.lies 0 rfl | exact sc.lies 1 rfl); rintro e w8 ⟨AR0, cR0, rfl, ho, hb⟩; replace sc := sc.row hb ho; clear hb ho; obtain ⟨w8a00, w8a01, w8a0l⟩ : w8.cell? ⟨w.heap.size, 0, none⟩ = some (.int .i64 N0) ∧ w8.cell? ⟨w.heap.size, 1, none⟩ = some (.slice A0 L0.length c0) ∧ w.heap.size < w8.heap.size := (by first | exact sc.two 4 rfl | exact sc.two 5 rfl); obtain ⟨w8a10, w8a11, w8a1l⟩ : w8.cell? ⟨w.heap.size + 1, 0, none⟩ = some (.int .i64 N1) ∧ w8.cell? ⟨w.heap.size + 1, 1, none⟩ = some (.slice A1 L1.length c1) ∧ w.heap.size + 1 < w8.heap.size := (by first | exact sc.two 3 rfl | exact sc.two 4 rfl); (first | (obtain ⟨bx0, bx1, bxl⟩ : w8.cell? ⟨w7.heap.size, 0, none⟩ = some (.int .i64 0) ∧ w8.cell? ⟨w7.heap.size, 1, none⟩ = some (.slice none 0 0) ∧ w7.heap.size < w8.heap.size := (by exact sc.two 1 rfl); have bf0 : w8.frozen? ⟨w7.heap.size, 0, none⟩ = false := (sc.getBox 1 rfl).frozen 0; have bf1 : w8.frozen? ⟨w7.heap.size, 1, none⟩ = false := (sc.getBox 1 rfl).frozen 1) | (obtain ⟨bx0, bx1, bxl⟩ : w8.cell? ⟨w6.heap.size, 0, none⟩ = some (.int .i64 0) ∧ w8.cell? ⟨w6.heap.size, 1, none⟩ = some (.slice none 0 0) ∧ w6.heap.size < w8.heap.size := (by exact sc.two 2 rfl); have bf0 : w8.frozen? ⟨w6.heap.size, 0, none⟩ = false := (sc.getBox 2 rfl).frozen 0; have bf1 : w8.frozen? ⟨w6.heap.size, 1, none⟩ = false := (sc.getBox 2 rfl).frozen 1) | (obtain ⟨bx0, bx1, bxl⟩ : w8.cell? ⟨w5.heap.size, 0, none⟩ = some (.int .i64 0) ∧ w8.cell? ⟨w5.heap.size, 1, none⟩ = some (.slice none 0 0) ∧ w5.heap.size < w8.heap.size := (by exact sc.two 3 rfl); have bf0 : w8.frozen? ⟨w5.heap.size, 0, none⟩ = false := (sc.getBox 3 rfl).frozen 0; have bf1 : w8.frozen? ⟨w5.heap.size, 1, none⟩ = false := (sc.getBox 3 rfl).frozen 1) | skip)))
    · replace sc := sc.box 26 #[.int .i64 (jN N0 L0 N1 L1), .slice AR0 (jW N0 L0 N1 L1).length cR0]
      generalize w8.alloc (Obj.cells #[.int .i64 (jN N0 L0 N1 L1), .slice AR0 (jW N0 L0 N1 L1).length cR0] 26) = W9 at sc ⊢
      generalize w8.heap.size = g9 at sc ⊢
      exact HKey.out g9 AR0 cR0 Ap0 cp0 Ap1 cp1 W9 (sc.pick [0, 1, 4, 5] (by decide) rfl)
    · replace sc := sc.put2 1 (g := w7.heap.size) rfl (.int .i64 (jN N0 L0 N1 L1)) (.slice AR0 (jW N0 L0 N1 L1).length cR0)
      generalize (w8.setCell ⟨w7.heap.size, 0, none⟩ (.int .i64 (jN N0 L0 N1 L1))).setCell ⟨w7.heap.size, 1, none⟩ (.slice AR0 (jW N0 L0 N1 L1).length cR0) = W9 at sc ⊢
      generalize w7.heap.size = g9 at sc ⊢
      exact HKey.out g9 AR0 cR0 Ap0 cp0 Ap1 cp1 W9 (sc.pick [1, 0, 4, 5] (by decide) rfl)
    · replace sc := sc.put2 2 (g := w6.heap.size) rfl (.int .i64 (jN N0 L0 N1 L1)) (.slice AR0 (jW N0 L0 N1 L1).length cR0)
      generalize (w8.setCell ⟨w6.heap.size, 0, none⟩ (.int .i64 (jN N0 L0 N1 L1))).setCell ⟨w6.heap.size, 1, none⟩ (.slice AR0 (jW N0 L0 N1 L1).length cR0) = W9 at sc ⊢
      generalize w6.heap.size = g9 at sc ⊢
      exact HKey.out g9 AR0 cR0 Ap0 cp0 Ap1 cp1 W9 (sc.pick [2, 0, 4, 5] (by decide) rfl)
    · replace sc := sc.put2 3 (g := w5.heap.size) rfl (.int .i64 (jN N0 L0 N1 L1)) (.slice AR0 (jW N0 L0 N1 L1).length cR0)
      generalize (w8.setCell ⟨w5.heap.size, 0, none⟩ (.int .i64 (jN N0 L0 N1 L1))).setCell ⟨w5.heap.size, 1, none⟩ (.slice AR0 (jW N0 L0 N1 L1).length cR0) = W9 at sc ⊢
      generalize w5.heap.size = g9 at sc ⊢
      exact HKey.out g9 AR0 cR0 Ap0 cp0 Ap1 cp1 W9 (sc.pick [3, 0, 4, 5] (by decide) rfl)
  case rest =>
    intro sR0 AR0 cR0 Ap0 cp0 Ap1 cp1 w9 sc
    show Exit.then _ _ _ _ _
    clear hnz hnd
    obtain ⟨fR00, fR01, fR0l⟩ := sc.two 0 rfl
    obtain ⟨fa10, fa11, fa1l⟩ := sc.two 2 rfl
    obtain ⟨fa00, fa01, fa0l⟩ := sc.two 3 rfl
    go_wp2_with fail
    clear fR00 fR01 fR0l fa10 fa11 fa1l fa00 fa01 fa0l
    refine (toBits_new N0 A0 c0 L0 _ (sc.liesOld HL0.out) (by omega)).mono ?_
    rintro e w10 ⟨Ax0, cx0, rfl, ho, hb⟩
    replace sc := sc.row hb ho
    clear hb ho
    obtain ⟨fR00, fR01, fR0l⟩ := sc.two 1 rfl
    obtain ⟨fa10, fa11, fa1l⟩ := sc.two 3 rfl
    obtain ⟨fa00, fa01, fa0l⟩ := sc.two 4 rfl
    go_wp2_with fail
    clear fR00 fR01 fR0l fa10 fa11 fa1l fa00 fa01 fa0l
    replace sc := sc.box 26 #[.int .i64 N0, .slice Ax0 L0.length cx0]
    generalize w10.alloc (Obj.cells #[.int .i64 N0, .slice Ax0 L0.length cx0] 26) = w11 at *
    generalize w10.heap.size = sx0 at *
    obtain ⟨fx00, fx01, fx0l⟩ := sc.two 0 rfl
    obtain ⟨fR00, fR01, fR0l⟩ := sc.two 2 rfl
    obtain ⟨fa10, fa11, fa1l⟩ := sc.two 4 rfl
    obtain ⟨fa00, fa01, fa0l⟩ := sc.two 5 rfl
    go_wp2_with fail
    clear fx00 fx01 fx0l fR00 fR01 fR0l fa10 fa11 fa1l fa00 fa01 fa0l
    refine (toBits_new N1 A1 c1 L1 _ (sc.liesOld HL1.out) (by omega)).mono ?_
    rintro e w12 ⟨Ax1, cx1, rfl, ho, hb⟩
    replace sc := sc.row hb ho
    clear hb ho
    obtain ⟨fx00, fx01, fx0l⟩ := sc.two 1 rfl
    obtain ⟨fR00, fR01, fR0l⟩ := sc.two 3 rfl
    obtain ⟨fa10, fa11, fa1l⟩ := sc.two 5 rfl
    obtain ⟨fa00, fa01, fa0l⟩ := sc.two 6 rfl
    go_wp2_with fail
    clear fx00 fx01 fx0l fR00 fR01 fR0l fa10 fa11 fa1l fa00 fa01 fa0l
    replace sc := sc.box 26 #[.int .i64 N1, .slice Ax1 L1.length cx1]
    generalize w12.alloc (Obj.cells #[.int .i64 N1, .slice Ax1 L1.length cx1] 26) = w13 at *
    generalize w12.heap.size = sx1 at *
    refine Calls.mono (implJoin_any N0 _ _ L0 N1 _ _ L1 _ ?_ HW0.out ?_ HW1.out) ?_
    · exact sc.lies 3 rfl
    · exact sc.lies 1 rfl
    rintro e w14 ⟨AG0, cG0, rfl, ho, hb⟩
    replace sc := sc.row hb ho
    clear hb ho
    obtain ⟨fx10, fx11, fx1l⟩ := sc.two 1 rfl
    obtain ⟨fx00, fx01, fx0l⟩ := sc.two 3 rfl
    obtain ⟨fR00, fR01, fR0l⟩ := sc.two 5 rfl
    obtain ⟨fa10, fa11, fa1l⟩ := sc.two 7 rfl
    obtain ⟨fa00, fa01, fa0l⟩ := sc.two 8 rfl
    go_wp2_with fail
    clear fx10 fx11 fx1l fx00 fx01 fx0l fR00 fR01 fR0l fa10 fa11 fa1l fa00 fa01 fa0l
    replace sc := sc.box 26 #[.int .i64 (jN N0 L0 N1 L1), .slice AG0 (jW N0 L0 N1 L1).length cG0]
    generalize w14.alloc (Obj.cells #[.int .i64 (jN N0 L0 N1 L1), .slice AG0 (jW N0 L0 N1 L1).length cG0] 26) = w15 at *
    generalize w14.heap.size = sG0 at *
    refine (eqBits_true _ _ _ _ _ (jW N0 L0 N1 L1) _ (sc.lies 1 rfl) (sc.lies 7 rfl) (by omega)).mono ?_
    rintro e w16 ⟨rfl, hb⟩
    replace sc := sc.step hb
    clear hb
    have t1G16 : (jOk N0 L0 N1 L1 != jOk N0 L0 N1 L1) = false := by simp
    obtain ⟨fG00, fG01, fG0l⟩ := sc.two 0 rfl
    obtain ⟨fx10, fx11, fx1l⟩ := sc.two 2 rfl
    obtain ⟨fx00, fx01, fx0l⟩ := sc.two 4 rfl
    obtain ⟨fR00, fR01, fR0l⟩ := sc.two 6 rfl
    obtain ⟨fa10, fa11, fa1l⟩ := sc.two 8 rfl
    obtain ⟨fa00, fa01, fa0l⟩ := sc.two 9 rfl
    go_wp2_with fail
    clear fG00 fG01 fG0l fx10 fx11 fx1l fR00 fR01 fR0l fa10 fa11 fa1l
    replace sc := sc.drew
    go_region_held3 (fun w' => w'.cell? ⟨sx0, 0, none⟩ = some (.int .i64 N0) ∧ w'.cell? ⟨sx0, 1, none⟩ = some (.slice Ax0 L0.length cx0) ∧ w'.cell? ⟨w.heap.size, 0, none⟩ = some (.int .i64 N0) ∧ w'.cell? ⟨w.heap.size, 1, none⟩ = some (.slice A0 L0.length c0)) (first | go_keep | (refine ⟨?_, ?_, ?_, ?_⟩ <;> assumption)) (first | (go_at_call 30; (with_reducible refine (toBits_new N0 A0 c0 L0 _ (by exact sc.liesOld HL0.out) (by omega)).mono ?_); rintro e w17 ⟨Ay0, cy0, rfl, ho, hb⟩; replace sc := sc.row hb ho; clear hb ho; obtain ⟨w17x00, w17x01, w17x0l⟩ := sc.two 5 rfl; obtain ⟨w17a00, w17a01, w17a0l⟩ := sc.two 10 rfl) | (go_at_call 23; (with_reducible refine (eqBits_true _ _ _ _ _ L0 _ (by exact sc.lies 6 rfl) (by exact sc.lies 0 rfl) (by omega)).mono ?_); rintro e w18 ⟨rfl, hb⟩; replace sc := sc.step hb; clear hb; obtain ⟨w18x00, w18x01, w18x0l⟩ := sc.two 5 rfl; obtain ⟨w18a00, w18a01, w18a0l⟩ := sc.two 10 rfl))
    obtain ⟨fG00, fG01, fG0l⟩ := sc.two 1 rfl
    obtain ⟨fx10, fx11, fx1l⟩ := sc.two 3 rfl
    obtain ⟨fx00, fx01, fx0l⟩ := sc.two 5 rfl
    obtain ⟨fR00, fR01, fR0l⟩ := sc.two 7 rfl
    obtain ⟨fa10, fa11, fa1l⟩ := sc.two 9 rfl
    obtain ⟨fa00, fa01, fa0l⟩ := sc.two 10 rfl
    go_wp2_with fail
    clear fG00 fG01 fG0l fx00 fx01 fx0l fR00 fR01 fR0l fa00 fa01 fa0l
    replace sc := sc.drew
    go_region_held3 (fun w' => w'.cell? ⟨sx1, 0, none⟩ = some (.int .i64 N1) ∧ w'.cell? ⟨sx1, 1, none⟩ = some (.slice Ax1 L1.length cx1) ∧ w'.cell? ⟨w.heap.size + 1, 0, none⟩ = some (.int .i64 N1) ∧ w'.cell? ⟨w.heap.size + 1, 1, none⟩ = some (.slice A1 L1.length c1)) (first | go_keep | (refine ⟨?_, ?_, ?_, ?_⟩ <;> assumption)) (first | (go_at_call 30; (with_reducible refine (toBits_new N1 A1 c1 L1 _ (by exact sc.liesOld HL1.out) (by omega)).mono ?_); rintro e w19 ⟨Ay1, cy1, rfl, ho, hb⟩; replace sc := sc.row hb ho; clear hb ho; obtain ⟨w19x10, w19x11, w19x1l⟩ := sc.two 4 rfl; obtain ⟨w19a10, w19a11, w19a1l⟩ := sc.two 10 rfl) | (go_at_call 23; (with_reducible refine (eqBits_true _ _ _ _ _ L1 _ (by exact sc.lies 5 rfl) (by exact sc.lies 0 rfl) (by omega)).mono ?_); rintro e w20 ⟨rfl, hb⟩; replace sc := sc.step hb; clear hb; obtain ⟨w20x10, w20x11, w20x1l⟩ := sc.two 4 rfl; obtain ⟨w20a10, w20a11, w20a1l⟩ := sc.two 10 rfl))
    have hk0 : (0 : Int) ≤ 1 := by omega
    obtain ⟨fG00, fG01, fG0l⟩ := sc.two 2 rfl
    obtain ⟨fx10, fx11, fx1l⟩ := sc.two 4 rfl
    obtain ⟨fx00, fx01, fx0l⟩ := sc.two 6 rfl
    obtain ⟨fR00, fR01, fR0l⟩ := sc.two 8 rfl
    obtain ⟨fa10, fa11, fa1l⟩ := sc.two 10 rfl
    obtain ⟨fa00, fa01, fa0l⟩ := sc.two 11 rfl
    go_wp2_with fail
    clear fG00 fG01 fG0l fx10 fx11 fx1l fx00 fx01 fx0l fR00 fR01 fR0l fa10 fa11 fa1l fa00 fa01 fa0l
    refine (markBits_wide _ _ _ _ 0 (1) _ _ (sc.getRow 7 rfl) (by omega) (by omega) (by omega)).mono ?_
    rintro e w21 ⟨rfl, ho, hg⟩
    replace sc := sc.mark 7 rfl hg ho
    clear ho hg
    simp only [List.set_cons_zero, List.set_cons_succ] at sc
    obtain ⟨fG00, fG01, fG0l⟩ := sc.two 2 rfl
    obtain ⟨fx10, fx11, fx1l⟩ := sc.two 4 rfl
    obtain ⟨fx00, fx01, fx0l⟩ := sc.two 6 rfl
    obtain ⟨fR00, fR01, fR0l⟩ := sc.two 8 rfl
    obtain ⟨fa10, fa11, fa1l⟩ := sc.two 10 rfl
    obtain ⟨fa00, fa01, fa0l⟩ := sc.two 11 rfl
    go_wp2_with fail
    clear fG00 fG01 fG0l fx10 fx11 fx1l fx00 fx01 fx0l fR00 fR01 fR0l fa10 fa11 fa1l fa00 fa01 fa0l
    refine (markBits_wide _ _ _ _ 0 (1 + (L0.length : Int)) _ _ (sc.getRow 5 rfl) (by omega) (by omega) (by omega)).mono ?_
    rintro e w22 ⟨rfl, ho, hg⟩
    replace sc := sc.mark 5 rfl hg ho
    clear ho hg
    simp only [List.set_cons_zero, List.set_cons_succ] at sc
    have dk : decide ((1 + (L0.length : Int) + (L1.length : Int) : Int) < 0) = false := by simp; omega
    obtain ⟨fG00, fG01, fG0l⟩ := sc.two 2 rfl
    obtain ⟨fx10, fx11, fx1l⟩ := sc.two 4 rfl
    obtain ⟨fx00, fx01, fx0l⟩ := sc.two 6 rfl
    obtain ⟨fR00, fR01, fR0l⟩ := sc.two 8 rfl
    obtain ⟨fa10, fa11, fa1l⟩ := sc.two 10 rfl
    obtain ⟨fa00, fa01, fa0l⟩ := sc.two 11 rfl
    go_wp2_with fail
    clear fG00 fG01 fG0l fx10 fx11 fx1l fx00 fx01 fx0l fR00 fR01 fR0l fa10 fa11 fa1l fa00 fa01 fa0l
    refine (eqBits_true _ _ _ _ _ (jW N0 L0 N1 L1) _ (sc.lies 3 rfl) (sc.lies 9 rfl) (by omega)).mono ?_
    rintro e w23 ⟨rfl, hb⟩
    replace sc := sc.step hb
    clear hb
    have t1G23 : (jOk N0 L0 N1 L1 != jOk N0 L0 N1 L1) = false := by simp
    clear dk
    obtain ⟨fG00, fG01, fG0l⟩ := sc.two 2 rfl
    obtain ⟨fx10, fx11, fx1l⟩ := sc.two 4 rfl
    obtain ⟨fx00, fx01, fx0l⟩ := sc.two 6 rfl
    obtain ⟨fR00, fR01, fR0l⟩ := sc.two 8 rfl
    obtain ⟨fa10, fa11, fa1l⟩ := sc.two 10 rfl
    obtain ⟨fa00, fa01, fa0l⟩ := sc.two 11 rfl
    go_wp2_with fail
    clear fG00 fG01 fG0l fx10 fx11 fx1l fx00 fx01 fx0l fR00 fR01 fR0l fa10 fa11 fa1l fa00 fa01 fa0l
    refine (markBits_wide _ _ _ _ 0 (1) _ _ (sc.getRow 3 rfl) (by omega) (by omega) (by omega)).mono ?_
    rintro e w24 ⟨rfl, ho, hg⟩
    replace sc := sc.mark 3 rfl hg ho
    clear ho hg
    simp only [List.set_cons_zero, List.set_cons_succ] at sc
    obtain ⟨fG00, fG01, fG0l⟩ := sc.two 2 rfl
    obtain ⟨fx10, fx11, fx1l⟩ := sc.two 4 rfl
    obtain ⟨fx00, fx01, fx0l⟩ := sc.two 6 rfl
    obtain ⟨fR00, fR01, fR0l⟩ := sc.two 8 rfl
    obtain ⟨fa10, fa11, fa1l⟩ := sc.two 10 rfl
    obtain ⟨fa00, fa01, fa0l⟩ := sc.two 11 rfl
    go_wp2_with fail
    clear fG00 fG01 fG0l fx10 fx11 fx1l fx00 fx01 fx0l fR00 fR01 fR0l fa10 fa11 fa1l fa00 fa01 fa0l
    refine (heldBits_any _ _ _ _ 1 _ (lies_ints (sc.getRow 3 rfl)) (by omega) (by omega) (by omega)).mono ?_
    rintro e w25 ⟨rfl, hb⟩
    replace sc := sc.step hb
    clear hb
    have dq : decide ((1 : Int) + ((jW N0 L0 N1 L1).length : Int) < 0) = false := by simp; omega
    have dq2 : ¬ ((1 : Int) + ((jW N0 L0 N1 L1).length : Int) < 0) := by omega
    obtain ⟨fG00, fG01, fG0l⟩ := sc.two 2 rfl
    obtain ⟨fx10, fx11, fx1l⟩ := sc.two 4 rfl
    obtain ⟨fx00, fx01, fx0l⟩ := sc.two 6 rfl
    obtain ⟨fR00, fR01, fR0l⟩ := sc.two 8 rfl
    obtain ⟨fa10, fa11, fa1l⟩ := sc.two 10 rfl
    obtain ⟨fa00, fa01, fa0l⟩ := sc.two 11 rfl
    go_wp2_with fail
    clear fG00 fG01 fG0l fx10 fx11 fx1l fx00 fx01 fx0l fR00 fR01 fR0l
    replace sc := sc.drew
    apply cut_at sc (jN N0 L0 N1 L1) (jW N0 L0 N1 L1)
    case main =>
      intro key
      have HKey := Lib.hid key
      clear key
      go_region_held3 (fun w' => w'.cell? ⟨w.heap.size, 0, none⟩ = some (.int .i64 N0) ∧ w'.cell? ⟨w.heap.size, 1, none⟩ = some (.slice A0 L0.length c0) ∧ w'.cell? ⟨w.heap.size + 1, 0, none⟩ = some (.int .i64 N1) ∧ w'.cell? ⟨w.heap.size + 1, 1, none⟩ = some (.slice A1 L1.length c1)) (first | (refine ⟨?_, ?_, ?_, ?_⟩ <;> assumption) | (refine ⟨?_, ?_, ?_, ?_⟩ <;> (refine keep2 ?_ ?_ ?_; assumption; omega; omega)) | go_keep) (first | (go_at_call 30; (with_reducible refine Calls.mono (toBits_new N0 A0 c0 L0 _ ?_ (by omega)) ?_); exact sc.liesOld HL0.out; rintro e w26 ⟨Aq0, cq0, rfl, ho, hb⟩; replace sc := sc.row hb ho; clear hb ho; obtain ⟨w26a00, w26a01, w26a0l⟩ : w26.cell? ⟨w.heap.size, 0, none⟩ = some (.int .i64 N0) ∧ w26.cell? ⟨w.heap.size, 1, none⟩ = some (.slice A0 L0.length c0) ∧ w.heap.size < w26.heap.size := (by first | exact sc.two 12 rfl | exact sc.two 13 rfl); obtain ⟨w26a10, w26a11, w26a1l⟩ : w26.cell? ⟨w.heap.size + 1, 0, none⟩ = some (.int .i64 N1) ∧ w26.cell? ⟨w.heap.size + 1, 1, none⟩ = some (.slice A1 L1.length c1) ∧ w.heap.size + 1 < w26.heap.size := (by first | exact sc.two 11 rfl | exact sc.two 12 rfl)) | (go_at_call 30; replace sc := sc.box 26 #[.int .i64 0, .slice none 0 0]; (with_reducible refine Calls.mono (toBits_new N0 A0 c0 L0 _ ?_ (by omega)) ?_); exact sc.liesOld HL0.out; rintro e w26 ⟨Aq0, cq0, rfl, ho, hb⟩; replace sc := sc.row hb ho; clear hb ho; obtain ⟨w26a00, w26a01, w26a0l⟩ : w26.cell? ⟨w.heap.size, 0, none⟩ = some (.int .i64 N0) ∧ w26.cell? ⟨w.heap.size, 1, none⟩ = some (.slice A0 L0.length c0) ∧ w.heap.size < w26.heap.size := (by first | exact sc.two 12 rfl | exact sc.two 13 rfl); obtain ⟨w26a10, w26a11, w26a1l⟩ : w26.cell? ⟨w.heap.size + 1, 0, none⟩ = some (.int .i64 N1) ∧ w26.cell? ⟨w.heap.size + 1, 1, none⟩ = some (.slice A1 L1.length c1) ∧ w.heap.size + 1 < w26.heap.size := (by first | exact sc.two 11 rfl | exact sc.two 12 rfl)) | (go_at_call 30; (with_reducible refine Calls.mono (toBits_new N1 A1 c1 L1 _ ?_ (by omega)) ?_); exact sc.liesOld HL1.out; rintro e w27 ⟨Aq1, cq1, rfl, ho, hb⟩; replace sc := sc.row hb ho; clear hb ho; obtain ⟨w27a00, w27a01, w27a0l⟩ : w27.cell? ⟨w.heap.size, 0, none⟩ = some (.int .i64 N0) ∧ w27.cell? ⟨w.heap.size, 1, none⟩ = some (.slice A0 L0.length c0) ∧ w.heap.size < w27.heap.size := (by first | exact sc.two 13 rfl | exact sc.two 14 rfl); obtain ⟨w27a10, w27a11, w27a1l⟩ : w27.cell? ⟨w.heap.size + 1, 0, none⟩ = some (.int .i64 N1) ∧ w27.cell? ⟨w.heap.size + 1, 1, none⟩ = some (.slice A1 L1.length c1) ∧ w.heap.size + 1 < w27.heap.size := (by first | exact sc.two 12 rfl | exact sc.two 13 rfl)) | (go_at_call 30; replace sc := sc.box 26 #[.int .i64 0, .slice none 0 0]; (with_reducible refine Calls.mono (toBits_new N1 A1 c1 L1 _ ?_ (by omega)) ?_); exact sc.liesOld HL1.out; rintro e w27 ⟨Aq1, cq1, rfl, ho, hb⟩; replace sc := sc.row hb ho; clear hb ho; obtain ⟨w27a00, w27a01, w27a0l⟩ : w27.cell? ⟨w.heap.size, 0, none⟩ = some (.int .i64 N0) ∧ w27.cell? ⟨w.heap.size, 1, none⟩ = some (.slice A0 L0.length c0) ∧ w.heap.size < w27.heap.size := (by first | exact sc.two 13 rfl | exact sc.two 14 rfl); obtain ⟨w27a10, w27a11, w27a1l⟩ : w27.cell? ⟨w.heap.size + 1, 0, none⟩ = some (.int .i64 N1) ∧ w27.cell? ⟨w.heap.size + 1, 1, none⟩ = some (.slice A1 L1.length c1) ∧ w.heap.size + 1 < w27.heap.size := (by first | exact sc.two 12 rfl | exact sc.two 13 rfl)) | (go_at_call 14; (with_reducible refine Calls.mono (implJoin_any N0 _ _ L0 N1 _ _ L1 _ ?_ HW0.out ?_ HW1.out) ?_); (first | exact sc.lies 1 rfl | exact sc.lies 2 rfl); (first | exact sc.lies 0 rfl | exact sc.lies 1 rfl); rintro e w28 ⟨AH0, cH0, rfl, ho, hb⟩; replace sc := sc.row hb ho; clear hb ho; obtain ⟨w28a00, w28a01, w28a0l⟩ : w28.cell? ⟨w.heap.size, 0, none⟩ = some (.int .i64 N0) ∧ w28.cell? ⟨w.heap.size, 1, none⟩ = some (.slice A0 L0.length c0) ∧ w.heap.size < w28.heap.size := (by first | exact sc.two 14 rfl | exact sc.two 15 rfl); obtain ⟨w28a10, w28a11, w28a1l⟩ : w28.cell? ⟨w.heap.size + 1, 0, none⟩ = some (.int .i64 N1) ∧ w28.cell? ⟨w.heap.size + 1, 1, none⟩ = some (.slice A1 L1.length c1) ∧ w.heap.size + 1 < w28.heap.size := (by first | exact sc.two 13 rfl | exact sc.two 14 rfl); (first | (obtain ⟨bx0, bx1, bxl⟩ : w28.cell? ⟨w27.heap.size, 0, none⟩ = some (.int .i64 0) ∧ w28.cell? ⟨w27.heap.size, 1, none⟩ = some (.slice none 0 0) ∧ w27.heap.size < w28.heap.size := (by exact sc.two 1 rfl); have bf0 : w28.frozen? ⟨w27.heap.size, 0, none⟩ = false := (sc.getBox 1 rfl).frozen 0; have bf1 : w28.frozen? ⟨w27.heap.size, 1, none⟩ = false := (sc.getBox 1 rfl).frozen 1) | (obtain ⟨bx0, bx1, bxl⟩ : w28.cell? ⟨w26.heap.size, 0, none⟩ = some (.int .i64 0) ∧ w28.cell? ⟨w26.heap.size, 1, none⟩ = some (.slice none 0 0) ∧ w26.heap.size < w28.heap.size := (by exact sc.two 2 rfl); have bf0 : w28.frozen? ⟨w26.heap.size, 0, none⟩ = false := (sc.getBox 2 rfl).frozen 0; have bf1 : w28.frozen? ⟨w26.heap.size, 1, none⟩ = false := (sc.getBox 2 rfl).frozen 1) | (obtain ⟨bx0, bx1, bxl⟩ : w28.cell? ⟨w25.heap.size, 0, none⟩ = some (.int .i64 0) ∧ w28.cell? ⟨w25.heap.size, 1, none⟩ = some (.slice none 0 0) ∧ w25.heap.size < w28.heap.size := (by exact sc.two 3 rfl); have bf0 : w28.frozen? ⟨w25.heap.size, 0, none⟩ = false := (sc.getBox 3 rfl).frozen 0; have bf1 : w28.frozen? ⟨w25.heap.size, 1, none⟩ = false := (sc.getBox 3 rfl).frozen 1) | skip)) | (go_at_call 14; replace sc := sc.box 26 #[.int .i64 0, .slice none 0 0]; (with_reducible refine Calls.mono (implJoin_any N0 _ _ L0 N1 _ _ L1 _ ?_ HW0.out ?_ HW1.out) ?_); (first | exact sc.lies 1 rfl | exact sc.lies 2 rfl); (first | exact sc.lies 0 rfl | exact sc.lies 1 rfl); rintro e w28 ⟨AH0, cH0, rfl, ho, hb⟩; replace sc := sc.row hb ho; clear hb ho; obtain ⟨w28a00, w28a01, w28a0l⟩ : w28.cell? ⟨w.heap.size, 0, none⟩ = some (.int .i64 N0) ∧ w28.cell? ⟨w.heap.size, 1, none⟩ = some (.slice A0 L0.length c0) ∧ w.heap.size < w28.heap.size := (by first | exact sc.two 14 rfl | exact sc.two 15 rfl); obtain ⟨w28a10, w28a11, w28a1l⟩ : w28.cell? ⟨w.heap.size + 1, 0, none⟩ = some (.int .i64 N1) ∧ w28.cell? ⟨w.heap.size + 1, 1, none⟩ = some (.slice A1 L1.length c1) ∧ w.heap.size + 1 < w28.heap.size := (by first | exact sc.two 13 rfl | exact sc.two 14 rfl); (first | (obtain ⟨bx0, bx1, bxl⟩ : w28.cell? ⟨w27.heap.size, 0, none⟩ = some (.int .i64 0) ∧ w28.cell? ⟨w27.heap.size, 1, none⟩ = some (.slice none 0 0) ∧ w27.heap.size < w28.heap.size := (by exact sc.two 1 rfl); have bf0 : w28.frozen? ⟨w27.heap.size, 0, none⟩ = false := (sc.getBox 1 rfl).frozen 0; have bf1 : w28.frozen? ⟨w27.heap.size, 1, none⟩ = false := (sc.getBox 1 rfl).frozen 1) | (obtain ⟨bx0, bx1, bxl⟩ : w28.cell? ⟨w26.heap.size, 0, none⟩ = some (.int .i64 0) ∧ w28.cell? ⟨w26.heap.size, 1, none⟩ = some (.slice none 0 0) ∧ w26.heap.size < w28.heap.size := (by exact sc.two 2 rfl); have bf0 : w28.frozen? ⟨w26.heap.size, 0, none⟩ = false := (sc.getBox 2 rfl).frozen 0; have bf1 : w28.frozen? ⟨w26.heap.size, 1, none⟩ = false := (sc.getBox 2 rfl).frozen 1) | (obtain ⟨bx0, bx1, bxl⟩ : w28.cell? ⟨w25.heap.size, 0, none⟩ = some (.int .i64 0) ∧ w28.cell? ⟨w25.heap.size, 1, none⟩ = some (.slice none 0 0) ∧ w25.heap.size < w28.heap.size := (by exact sc.two 3 rfl); have bf0 : w28.frozen? ⟨w25.heap.size, 0, none⟩ = false := (sc.getBox 3 rfl).frozen 0; have bf1 : w28.frozen? ⟨w25.heap.size, 1, none⟩ = false := (sc.getBox 3 rfl).frozen 1) | skip)))
      · replace sc := sc.box 26 #[.int .i64 (jN N0 L0 N1 L1), .slice AH0 (jW N0 L0 N1 L1).length cH0]
        generalize w28.alloc (Obj.cells #[.int .i64 (jN N0 L0 N1 L1), .slice AH0 (jW N0 L0 N1 L1).length cH0] 26) = W9 at sc ⊢
        generalize w28.heap.size = g9 at sc ⊢
        exact HKey.out g9 AH0 cH0 Aq0 cq0 Aq1 cq1 W9 (sc.pick [0, 1, 4, 5, 6, 7, 8, 9, 10, 11, 12, 13, 14, 15] (by decide) rfl)
      · replace sc := sc.put2 1 (g := w27.heap.size) rfl (.int .i64 (jN N0 L0 N1 L1)) (.slice AH0 (jW N0 L0 N1 L1).length cH0)
        generalize (w28.setCell ⟨w27.heap.size, 0, none⟩ (.int .i64 (jN N0 L0 N1 L1))).setCell ⟨w27.heap.size, 1, none⟩ (.slice AH0 (jW N0 L0 N1 L1).length cH0) = W9 at sc ⊢
        generalize w27.heap.size = g9 at sc ⊢
        exact HKey.out g9 AH0 cH0 Aq0 cq0 Aq1 cq1 W9 (sc.pick [1, 0, 4, 5, 6, 7, 8, 9, 10, 11, 12, 13, 14, 15] (by decide) rfl)
      · replace sc := sc.put2 2 (g := w26.heap.size) rfl (.int .i64 (jN N0 L0 N1 L1)) (.slice AH0 (jW N0 L0 N1 L1).length cH0)
        generalize (w28.setCell ⟨w26.heap.size, 0, none⟩ (.int .i64 (jN N0 L0 N1 L1))).setCell ⟨w26.heap.size, 1, none⟩ (.slice AH0 (jW N0 L0 N1 L1).length cH0) = W9 at sc ⊢
        generalize w26.heap.size = g9 at sc ⊢
        exact HKey.out g9 AH0 cH0 Aq0 cq0 Aq1 cq1 W9 (sc.pick [2, 0, 4, 5, 6, 7, 8, 9, 10, 11, 12, 13, 14, 15] (by decide) rfl)
      · replace sc := sc.put2 3 (g := w25.heap.size) rfl (.int .i64 (jN N0 L0 N1 L1)) (.slice AH0 (jW N0 L0 N1 L1).length cH0)
        generalize (w28.setCell ⟨w25.heap.size, 0, none⟩ (.int .i64 (jN N0 L0 N1 L1))).setCell ⟨w25.heap.size, 1, none⟩ (.slice AH0 (jW N0 L0 N1 L1).length cH0) = W9 at sc ⊢
        generalize w25.heap.size = g9 at sc ⊢
        exact HKey.out g9 AH0 cH0 Aq0 cq0 Aq1 cq1 W9 (sc.pick [3, 0, 4, 5, 6, 7, 8, 9, 10, 11, 12, 13, 14, 15] (by decide) rfl)
    case rest =>
      intro sH0 AH0 cH0 Aq0 cq0 Aq1 cq1 w29 sc
      show Exit.then _ _ _ _ _
      obtain ⟨fH00, fH01, fH0l⟩ := sc.two 0 rfl
      obtain ⟨fG00, fG01, fG0l⟩ := sc.two 4 rfl
      obtain ⟨fx10, fx11, fx1l⟩ := sc.two 6 rfl
      obtain ⟨fx00, fx01, fx0l⟩ := sc.two 8 rfl
      obtain ⟨fR00, fR01, fR0l⟩ := sc.two 10 rfl
      obtain ⟨fa10, fa11, fa1l⟩ := sc.two 12 rfl
      obtain ⟨fa00, fa01, fa0l⟩ := sc.two 13 rfl
      go_wp2_with fail
      clear fH00 fH01 fH0l fG00 fG01 fG0l fx10 fx11 fx1l fx00 fx01 fx0l fR00 fR01 fR0l fa10 fa11 fa1l fa00 fa01 fa0l
      refine (eqBits_true _ _ _ _ _ (jW N0 L0 N1 L1) _ (sc.lies 1 rfl) (sc.lies 11 rfl) (by omega)).mono ?_
      rintro e w30 ⟨rfl, hb⟩
      replace sc := sc.step hb
      clear hb
      have t1H30 : (jOk N0 L0 N1 L1 != jOk N0 L0 N1 L1) = false := by simp
      obtain ⟨fH00, fH01, fH0l⟩ := sc.two 0 rfl
      obtain ⟨fG00, fG01, fG0l⟩ := sc.two 4 rfl
      obtain ⟨fx10, fx11, fx1l⟩ := sc.two 6 rfl
      obtain ⟨fx00, fx01, fx0l⟩ := sc.two 8 rfl
      obtain ⟨fR00, fR01, fR0l⟩ := sc.two 10 rfl
      obtain ⟨fa10, fa11, fa1l⟩ := sc.two 12 rfl
      obtain ⟨fa00, fa01, fa0l⟩ := sc.two 13 rfl
      go_wp2_with fail
      clear fH00 fH01 fH0l fG00 fG01 fG0l fx10 fx11 fx1l fx00 fx01 fx0l fR00 fR01 fR0l fa10 fa11 fa1l fa00 fa01 fa0l
      refine (heldBits_any _ _ _ _ 1 _ (lies_ints (sc.getRow 5 rfl)) (by omega) (by omega) (by omega)).mono ?_
      rintro e w31 ⟨rfl, hb⟩
      replace sc := sc.step hb
      clear hb
      have HB := Lib.hid sc.below
      clear sc
      go_wp2
      go_ret
      exact ⟨rfl, HB.out⟩

end Go.Proofs.Ytoiiiidijpenfaa
