/- The law FnExactPackAt walked (written by lawgen2.py). -/
import Derived.Test.YticndfdicalmcaaPk5
import Derived.Test.YticndfdicalmcaaScene4
namespace Go.Proofs.Yticndfdicalmcaa
open Go.RowKit

set_option maxHeartbeats 1600000 in
theorem lawPackAt (P0 N0 M0 : Int) (A0 : Option Addr) (c0 : Nat) (L0 : List Nat) (n1 : Int) (w : World) (hL0 : Lies w U A0 L0) (hw0 : ∀ x ∈ L0, x < 2 ^ 64) (hbig : L0.length ≤ 1048576) :
    Calls Try.prog 8 #[.agg #[.int .i64 P0, .int .i64 N0, .int .i64 M0, .slice A0 L0.length c0], .int .i64 n1] w fun e w' => e = .returned (.bool true) ∧ Below w.heap.size w w' := by
  have HL0 := Lib.hid hL0
  clear hL0
  have HW0 := Lib.hid hw0
  clear hw0
  go_enter Try.func8, Try.ntmps8
  have sc : Scene w w [] := Scene.start w
  go_wp2_with fail
  replace sc := sc.box 56 #[.int .i64 P0, .int .i64 N0, .int .i64 M0, .slice A0 L0.length c0]
  generalize w.alloc (Obj.cells #[.int .i64 P0, .int .i64 N0, .int .i64 M0, .slice A0 L0.length c0] 56) = w1 at *
  have cz := szPacked_any P0 N0 M0 A0 L0.length c0 1048576 w1 (by omega) (by omega) (by omega)
  rw [if_neg (show ¬ (1048576 : Int) < (L0.length : Int) by omega)] at cz
  refine cz.mono ?_
  rintro e w2 ⟨rfl, hb⟩
  clear cz
  replace sc := sc.step hb
  clear hb
  have hnz : ¬ (1048576 - (L0.length : Int) < 0) := by omega
  have hnd : decide (1048576 - (L0.length : Int) < 0) = false := by simp; omega
  obtain ⟨fa00, fa01, fa02, fa03, fa0l⟩ := sc.four 0 rfl
  go_wp2_with fail
  clear fa00 fa01 fa02 fa03 fa0l
  refine (toPacked_new P0 N0 M0 A0 c0 L0 _ (sc.liesOld HL0.out) (by omega)).mono ?_
  rintro e w3 ⟨Ap0, cp0, rfl, ho, hb⟩
  replace sc := sc.row hb ho
  clear hb ho
  obtain ⟨fa00, fa01, fa02, fa03, fa0l⟩ := sc.four 1 rfl
  go_wp2_with fail
  clear fa00 fa01 fa02 fa03 fa0l
  refine (specPackAt_any P0 N0 M0 _ _ L0 n1 _ (by exact sc.lies 0 rfl) HW0.out).mono ?_
  rintro e w4 ⟨rfl, hb⟩
  replace sc := sc.step hb
  clear hb
  clear hnz hnd
  obtain ⟨fa00, fa01, fa02, fa03, fa0l⟩ := sc.four 1 rfl
  go_wp2_with fail
  clear fa00 fa01 fa02 fa03 fa0l
  refine (toPacked_new P0 N0 M0 A0 c0 L0 _ (sc.liesOld HL0.out) (by omega)).mono ?_
  rintro e w5 ⟨Ax0, cx0, rfl, ho, hb⟩
  replace sc := sc.row hb ho
  clear hb ho
  obtain ⟨fa00, fa01, fa02, fa03, fa0l⟩ := sc.four 2 rfl
  go_wp2_with fail
  clear fa00 fa01 fa02 fa03 fa0l
  replace sc := sc.box 39 #[.int .i64 P0, .int .i64 N0, .int .i64 M0, .slice Ax0 L0.length cx0]
  generalize w5.alloc (Obj.cells #[.int .i64 P0, .int .i64 N0, .int .i64 M0, .slice Ax0 L0.length cx0] 39) = w6 at *
  generalize w5.heap.size = sx0 at *
  refine (implPackAt_any P0 N0 M0 _ _ L0 n1 _ (by exact sc.lies 1 rfl) HW0.out).mono ?_
  rintro e w7 ⟨rfl, hb⟩
  replace sc := sc.step hb
  clear hb
  have t0G7 : (paV P0 N0 M0 L0 n1 != paV P0 N0 M0 L0 n1) = false := by simp
  obtain ⟨fx00, fx01, fx02, fx03, fx0l⟩ := sc.four 0 rfl
  obtain ⟨fa00, fa01, fa02, fa03, fa0l⟩ := sc.four 3 rfl
  go_wp2_with fail
  replace sc := sc.drew
  go_region_held3 (fun w' => w'.cell? ⟨sx0, 0, none⟩ = some (.int .i64 P0) ∧ w'.cell? ⟨sx0, 1, none⟩ = some (.int .i64 N0) ∧ w'.cell? ⟨sx0, 2, none⟩ = some (.int .i64 M0) ∧ w'.cell? ⟨sx0, 3, none⟩ = some (.slice Ax0 L0.length cx0) ∧ w'.cell? ⟨w.heap.size, 0, none⟩ = some (.int .i64 P0) ∧ w'.cell? ⟨w.heap.size, 1, none⟩ = some (.int .i64 N0) ∧ w'.cell? ⟨w.heap.size, 2, none⟩ = some (.int .i64 M0) ∧ w'.cell? ⟨w.heap.size, 3, none⟩ = some (.slice A0 L0.length c0)) (first | go_keep | (refine ⟨?_, ?_, ?_, ?_, ?_, ?_, ?_, ?_⟩ <;> assumption)) (first | (go_at_call 43; (with_reducible refine (toPacked_new P0 N0 M0 A0 c0 L0 _ (by exact sc.liesOld HL0.out) (by omega)).mono ?_); rintro e w8 ⟨Ay0, cy0, rfl, ho, hb⟩; replace sc := sc.row hb ho; clear hb ho; obtain ⟨w8x00, w8x01, w8x02, w8x03, w8x0l⟩ := sc.four 1 rfl; obtain ⟨w8a00, w8a01, w8a02, w8a03, w8a0l⟩ := sc.four 4 rfl) | (go_at_call 36; (with_reducible refine (eqPacked_true _ _ _ _ _ _ _ L0 _ (by exact sc.lies 2 rfl) (by exact sc.lies 0 rfl) (by omega)).mono ?_); rintro e w9 ⟨rfl, hb⟩; replace sc := sc.step hb; clear hb; obtain ⟨w9x00, w9x01, w9x02, w9x03, w9x0l⟩ := sc.four 1 rfl; obtain ⟨w9a00, w9a01, w9a02, w9a03, w9a0l⟩ := sc.four 4 rfl))
  have HB := Lib.hid sc.below
  clear sc
  go_wp2
  go_ret
  exact ⟨rfl, HB.out⟩

end Go.Proofs.Yticndfdicalmcaa
