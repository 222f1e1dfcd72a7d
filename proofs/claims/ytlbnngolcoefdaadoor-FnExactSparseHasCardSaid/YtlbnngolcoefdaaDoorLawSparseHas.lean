/- The law FnExactSparseHas walked (written by lawgen3.py). -/
import Derived.Test.YtlbnngolcoefdaaDoorSp21
import Derived.Test.YtlbnngolcoefdaaDoorSpTo
namespace Go.Proofs.YtlbnngolcoefdaaDoor
open Go.RowKit
set_option maxRecDepth 100000

set_option maxHeartbeats 1600000 in
theorem lawSparseHas (V0 N0 P0 M0 K0 H0 : Int) (A0 : Option Addr) (c0 : Nat) (L0 : List Nat) (B0 : Option Addr) (d0 : Nat) (K1 : List Nat) (n1 : Int) (w : World) (hL0 : Lies w U A0 L0) (hw0 : ∀ x ∈ L0, x < 2 ^ 64) (hL1 : Lies w U B0 K1) (hw1 : ∀ x ∈ K1, x < 2 ^ 64) (hN0 : N0 ≤ 9223372036854775807) (hT : Tab w) (hbig : L0.length + K1.length ≤ 1048576) :
    Calls Tryd.prog 7 #[SP V0 N0 P0 M0 K0 (.slice A0 L0.length c0) H0 (.slice B0 K1.length d0), .int .i64 n1] w fun e w' => e = .returned (.bool true) ∧ Below w.heap.size w w' := by
  have HL0 := Lib.hid hL0
  clear hL0
  have HL1 := Lib.hid hL1
  clear hL1
  have HW0 := Lib.hid hw0
  clear hw0
  have HW1 := Lib.hid hw1
  clear hw1
  have HTb := Lib.hid hT
  clear hT
  go_enter Tryd.func7, Tryd.ntmps7
  have sc : Scene w w [] := Scene.start w
  go_wp2_with fail
  replace sc := sc.box 60 #[.int .i64 V0, .int .i64 N0, .int .i64 P0, .int .i64 M0, .int .i64 K0, .slice A0 L0.length c0, .int .i64 H0, .slice B0 K1.length d0]
  generalize w.alloc (Obj.cells #[.int .i64 V0, .int .i64 N0, .int .i64 P0, .int .i64 M0, .int .i64 K0, .slice A0 L0.length c0, .int .i64 H0, .slice B0 K1.length d0] 60) = w1 at *
  refine (szSparse_fit V0 N0 P0 M0 K0 H0 A0 B0 L0.length c0 K1.length d0 w1 hbig).mono ?_
  rintro e w2 ⟨rfl, hb⟩
  replace sc := sc.step hb
  clear hb
  have hnz : ¬ (1048576 - (L0.length : Int) - (K1.length : Int) < 0) := by omega
  have hnd : decide (1048576 - (L0.length : Int) - (K1.length : Int) < 0) = false := by simp; omega
  obtain ⟨⟨fa0, fa1, fa2, fa3, fa4, fa5, fa6, fa7⟩, _, fal⟩ := box_eight (sc.getBox 0 rfl)
  go_wp2_with fail
  clear fa0 fa1 fa2 fa3 fa4 fa5 fa6 fa7 fal
  refine (toSparse_new V0 N0 P0 M0 K0 H0 A0 c0 L0 B0 d0 K1 _ (sc.liesOld HL0.out) (sc.liesOld HL1.out) (by omega) (by omega)).mono ?_
  rintro e w3 ⟨Ap, cp, Bp, dp, rfl, tr⟩
  replace sc := sc.rows tr
  clear tr
  obtain ⟨⟨fa0, fa1, fa2, fa3, fa4, fa5, fa6, fa7⟩, _, fal⟩ := box_eight (sc.getBox 2 rfl)
  go_wp2_with fail
  clear fa0 fa1 fa2 fa3 fa4 fa5 fa6 fa7 fal
  refine (specSparseHas_any V0 N0 P0 M0 K0 H0 _ _ _ _ L0 K1 n1 _ (by exact sc.lies 1 rfl) (by exact sc.lies 0 rfl) HW0.out HW1.out).mono ?_
  rintro e w4 ⟨rfl, hb⟩
  replace sc := sc.step hb
  clear hb
  clear hnz hnd
  obtain ⟨⟨fa0, fa1, fa2, fa3, fa4, fa5, fa6, fa7⟩, _, fal⟩ := box_eight (sc.getBox 2 rfl)
  go_wp2_with fail
  clear fa0 fa1 fa2 fa3 fa4 fa5 fa6 fa7 fal
  refine (toSparse_new V0 N0 P0 M0 K0 H0 A0 c0 L0 B0 d0 K1 _ (sc.liesOld HL0.out) (sc.liesOld HL1.out) (by omega) (by omega)).mono ?_
  rintro e w5 ⟨Ax, cx, Bx, dx, rfl, tr⟩
  replace sc := sc.rows tr
  clear tr
  obtain ⟨⟨fa0, fa1, fa2, fa3, fa4, fa5, fa6, fa7⟩, _, fal⟩ := box_eight (sc.getBox 4 rfl)
  go_wp2_with fail
  clear fa0 fa1 fa2 fa3 fa4 fa5 fa6 fa7 fal
  replace sc := sc.box 33 #[.int .i64 V0, .int .i64 N0, .int .i64 P0, .int .i64 M0, .int .i64 K0, .slice Ax L0.length cx, .int .i64 H0, .slice Bx K1.length dx]
  generalize w5.alloc (Obj.cells #[.int .i64 V0, .int .i64 N0, .int .i64 P0, .int .i64 M0, .int .i64 K0, .slice Ax L0.length cx, .int .i64 H0, .slice Bx K1.length dx] 33) = w6 at *
  generalize w5.heap.size = sx at *
  refine (implSparseHas_any V0 N0 P0 M0 K0 H0 _ _ _ _ L0 K1 n1 _ (by exact sc.lies 2 rfl) (by exact sc.lies 1 rfl) HW0.out HW1.out hN0 (by exact row_capS (sc.getRow 1 rfl)) (HTb.out.below sc.below)).mono ?_
  rintro e w7 ⟨rfl, hb⟩
  replace sc := sc.step hb
  clear hb
  have t0G7 : (shV V0 N0 P0 M0 K0 L0 H0 K1 n1 != shV V0 N0 P0 M0 K0 L0 H0 K1 n1) = false := by simp
  obtain ⟨⟨fx0, fx1, fx2, fx3, fx4, fx5, fx6, fx7⟩, _, fxl⟩ := box_eight (sc.getBox 0 rfl)
  obtain ⟨⟨fa0, fa1, fa2, fa3, fa4, fa5, fa6, fa7⟩, _, fal⟩ := box_eight (sc.getBox 5 rfl)
  go_wp2_with fail
  replace sc := sc.drew
  go_region_held3 (fun w' => w'.cell? ⟨sx, 0, none⟩ = some (.int .i64 V0) ∧ w'.cell? ⟨sx, 1, none⟩ = some (.int .i64 N0) ∧ w'.cell? ⟨sx, 2, none⟩ = some (.int .i64 P0) ∧ w'.cell? ⟨sx, 3, none⟩ = some (.int .i64 M0) ∧ w'.cell? ⟨sx, 4, none⟩ = some (.int .i64 K0) ∧ w'.cell? ⟨sx, 5, none⟩ = some (.slice Ax L0.length cx) ∧ w'.cell? ⟨sx, 6, none⟩ = some (.int .i64 H0) ∧ w'.cell? ⟨sx, 7, none⟩ = some (.slice Bx K1.length dx) ∧ w'.cell? ⟨w.heap.size, 0, none⟩ = some (.int .i64 V0) ∧ w'.cell? ⟨w.heap.size, 1, none⟩ = some (.int .i64 N0) ∧ w'.cell? ⟨w.heap.size, 2, none⟩ = some (.int .i64 P0) ∧ w'.cell? ⟨w.heap.size, 3, none⟩ = some (.int .i64 M0) ∧ w'.cell? ⟨w.heap.size, 4, none⟩ = some (.int .i64 K0) ∧ w'.cell? ⟨w.heap.size, 5, none⟩ = some (.slice A0 L0.length c0) ∧ w'.cell? ⟨w.heap.size, 6, none⟩ = some (.int .i64 H0) ∧ w'.cell? ⟨w.heap.size, 7, none⟩ = some (.slice B0 K1.length d0)) (first | go_keep | (refine ⟨?_, ?_, ?_, ?_, ?_, ?_, ?_, ?_, ?_, ?_, ?_, ?_, ?_, ?_, ?_, ?_⟩ <;> assumption)) (first | (go_at_call 32; (with_reducible refine Calls.mono (toSparse_new V0 N0 P0 M0 K0 H0 A0 c0 L0 B0 d0 K1 _ (by exact sc.liesOld HL0.out) (by exact sc.liesOld HL1.out) (by omega) (by omega)) ?_); rintro e w8 ⟨Ay, cy, By, dy, rfl, tr⟩; replace sc := sc.rows tr; clear tr; obtain ⟨⟨w8x0, w8x1, w8x2, w8x3, w8x4, w8x5, w8x6, w8x7⟩, _, w8xl⟩ := box_eight (sc.getBox 2 rfl); obtain ⟨⟨w8a0, w8a1, w8a2, w8a3, w8a4, w8a5, w8a6, w8a7⟩, _, w8al⟩ := box_eight (sc.getBox 7 rfl)) | (go_at_call 33; (with_reducible refine Calls.mono (eqSparse_true _ _ _ _ _ _ _ _ _ _ _ _ _ _ L0 K1 _ (by exact sc.lies 4 rfl) (by exact sc.lies 1 rfl) (by exact sc.lies 3 rfl) (by exact sc.lies 0 rfl) (by omega) (by omega)) ?_); rintro e w9 ⟨rfl, hb⟩; replace sc := sc.step hb; clear hb; obtain ⟨⟨w9x0, w9x1, w9x2, w9x3, w9x4, w9x5, w9x6, w9x7⟩, _, w9xl⟩ := box_eight (sc.getBox 2 rfl); obtain ⟨⟨w9a0, w9a1, w9a2, w9a3, w9a4, w9a5, w9a6, w9a7⟩, _, w9al⟩ := box_eight (sc.getBox 7 rfl)))
  have HB := Lib.hid sc.below
  clear sc
  go_wp2
  go_ret
  exact ⟨rfl, HB.out⟩

end Go.Proofs.YtlbnngolcoefdaaDoor
