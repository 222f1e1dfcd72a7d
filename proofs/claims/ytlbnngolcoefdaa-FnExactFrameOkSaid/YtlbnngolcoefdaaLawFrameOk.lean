/- The law FnExactFrameOk walked (written by lawgen2.py). -/
import Derived.Test.YtlbnngolcoefdaaFr1
import Derived.Test.YtlbnngolcoefdaaFrame1
namespace Go.Proofs.Ytlbnngolcoefdaa
open Go.RowKit

set_option maxHeartbeats 1600000 in
theorem lawFrameOk (N0 : Int) (A0 : Option Addr) (c0 : Nat) (L0 : List Nat) (w : World) (hL0 : Lies w B8 A0 L0) (hw0 : ∀ x ∈ L0, x < 2 ^ 8) (hbig : L0.length ≤ 1048576) :
    Calls Try.prog 5 #[.agg #[.int .i64 N0, .slice A0 L0.length c0]] w fun e w' => e = .returned (.bool true) ∧ Below w.heap.size w w' := by
  have HL0 := Lib.hid hL0
  clear hL0
  have HW0 := Lib.hid hw0
  clear hw0
  go_enter Try.func5, Try.ntmps5
  have sc : Scene w w [] := Scene.start w
  go_wp2_with fail
  replace sc := sc.box 49 #[.int .i64 N0, .slice A0 L0.length c0]
  generalize w.alloc (Obj.cells #[.int .i64 N0, .slice A0 L0.length c0] 49) = w1 at *
  have cz := szFrame_any N0 A0 L0.length c0 1048576 w1 (by omega) (by omega) (by omega)
  rw [if_neg (show ¬ (1048576 : Int) < (L0.length : Int) by omega)] at cz
  refine cz.mono ?_
  rintro e w2 ⟨rfl, hb⟩
  clear cz
  replace sc := sc.step hb
  clear hb
  have hnz : ¬ (1048576 - (L0.length : Int) < 0) := by omega
  have hnd : decide (1048576 - (L0.length : Int) < 0) = false := by simp; omega
  obtain ⟨fa00, fa01, fa0l⟩ := sc.two 0 rfl
  go_wp2_with fail
  clear fa00 fa01 fa0l
  refine (toFrame_new N0 A0 c0 L0 _ (sc.liesOld HL0.out) (by omega)).mono ?_
  rintro e w3 ⟨Ap0, cp0, rfl, ho, hb⟩
  replace sc := sc.row hb ho
  clear hb ho
  obtain ⟨fa00, fa01, fa0l⟩ := sc.two 1 rfl
  go_wp2_with fail
  clear fa00 fa01 fa0l
  refine (specFrameOk_any N0 _ _ L0.length _).mono ?_
  rintro e w4 ⟨rfl, hb⟩
  replace sc := sc.step hb
  clear hb
  clear hnz hnd
  obtain ⟨fa00, fa01, fa0l⟩ := sc.two 1 rfl
  go_wp2_with fail
  clear fa00 fa01 fa0l
  refine (toFrame_new N0 A0 c0 L0 _ (sc.liesOld HL0.out) (by omega)).mono ?_
  rintro e w5 ⟨Ax0, cx0, rfl, ho, hb⟩
  replace sc := sc.row hb ho
  clear hb ho
  obtain ⟨fa00, fa01, fa0l⟩ := sc.two 2 rfl
  go_wp2_with fail
  clear fa00 fa01 fa0l
  replace sc := sc.box 52 #[.int .i64 N0, .slice Ax0 L0.length cx0]
  generalize w5.alloc (Obj.cells #[.int .i64 N0, .slice Ax0 L0.length cx0] 52) = w6 at *
  generalize w5.heap.size = sx0 at *
  refine (implFrameOk_any N0 _ _ L0.length _).mono ?_
  rintro e w7 ⟨rfl, hb⟩
  replace sc := sc.step hb
  clear hb
  have t0G7 : (okF N0 L0.length != okF N0 L0.length) = false := by simp
  obtain ⟨fx00, fx01, fx0l⟩ := sc.two 0 rfl
  obtain ⟨fa00, fa01, fa0l⟩ := sc.two 3 rfl
  go_wp2_with fail
  replace sc := sc.drew
  go_region_held3 (fun w' => w'.cell? ⟨sx0, 0, none⟩ = some (.int .i64 N0) ∧ w'.cell? ⟨sx0, 1, none⟩ = some (.slice Ax0 L0.length cx0) ∧ w'.cell? ⟨w.heap.size, 0, none⟩ = some (.int .i64 N0) ∧ w'.cell? ⟨w.heap.size, 1, none⟩ = some (.slice A0 L0.length c0)) (first | go_keep | (refine ⟨?_, ?_, ?_, ?_⟩ <;> assumption)) (first | (go_at_call 23; (with_reducible refine (toFrame_new N0 A0 c0 L0 _ (by exact sc.liesOld HL0.out) (by omega)).mono ?_); rintro e w8 ⟨Ay0, cy0, rfl, ho, hb⟩; replace sc := sc.row hb ho; clear hb ho; obtain ⟨w8x00, w8x01, w8x0l⟩ := sc.two 1 rfl; obtain ⟨w8a00, w8a01, w8a0l⟩ := sc.two 4 rfl) | (go_at_call 25; (with_reducible refine (eqFrame_true _ _ _ _ _ L0 _ (by exact sc.lies 2 rfl) (by exact sc.lies 0 rfl) (by omega)).mono ?_); rintro e w9 ⟨rfl, hb⟩; replace sc := sc.step hb; clear hb; obtain ⟨w9x00, w9x01, w9x0l⟩ := sc.two 1 rfl; obtain ⟨w9a00, w9a01, w9a0l⟩ := sc.two 4 rfl))
  have HB := Lib.hid sc.below
  clear sc
  go_wp2
  go_ret
  exact ⟨rfl, HB.out⟩

end Go.Proofs.Ytlbnngolcoefdaa
