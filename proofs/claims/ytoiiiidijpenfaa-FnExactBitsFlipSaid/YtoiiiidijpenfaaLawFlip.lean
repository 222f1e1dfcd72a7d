/- The law FnExactBitsFlip walked (written by lawgen.py). -/
import Derived.Test.YtoiiiidijpenfaaNew2
import Derived.Test.YtoiiiidijpenfaaFlip3
namespace Go.Proofs.Ytoiiiidijpenfaa
open Go.RowKit

/-- What BitsFlip is to return. -/
def flN (N : Int) (L : List Nat) : Int := ((listV N L).length : Int)
def flW (N : Int) (L : List Nat) : List Nat := wordsOf (flipped (listV N L))
theorem flW_len (N : Int) (L : List Nat) : (flW N L).length ≤ 79 := by
  unfold flW
  rw [wordsOf_len]
  have h : (flipped (listV N L)).length = (listV N L).length := by simp [flipped]
  have := listV_le N L
  omega
theorem specFlip_new (N : Int) (A : Option Addr) (c : Nat) (L : List Nat) (w : World) (hL : Lies w U A L) (hw : ∀ x ∈ L, x < 2 ^ 64) :
    Calls Try.prog 37 #[.agg #[.int .i64 N, .slice A L.length c]] w (NewBits1 w (flN N L) (flW N L)) := specFlip_any N A c L w hL hw
theorem implFlip_new (N : Int) (A : Option Addr) (c : Nat) (L : List Nat) (w : World) (hL : Lies w U A L) (hw : ∀ x ∈ L, x < 2 ^ 64) :
    Calls Try.prog 16 #[.agg #[.int .i64 N, .slice A L.length c]] w (NewBits1 w (flN N L) (flW N L)) := implFlip_any N A c L w hL hw

set_option maxHeartbeats 1600000 in
theorem lawFlip (N0 : Int) (A0 : Option Addr) (c0 : Nat) (L0 : List Nat) (w : World) (hL0 : Lies w U A0 L0) (hw0 : ∀ x ∈ L0, x < 2 ^ 64) (hbig : L0.length ≤ 1048576) :
    Calls Try.prog 10 #[.agg #[.int .i64 N0, .slice A0 L0.length c0]] w fun e w' => e = .returned (.bool true) ∧ Below w.heap.size w w' := by
  have HL0 := Lib.hid hL0
  clear hL0
  have HW0 := Lib.hid hw0
  clear hw0
  have hFl := flW_len N0 L0
  go_enter Try.func10, Try.ntmps10
  have sc : Scene w w [] := Scene.start w
  go_wp2_with fail
  replace sc := sc.box 42 #[.int .i64 N0, .slice A0 L0.length c0]
  generalize w.alloc (Obj.cells #[.int .i64 N0, .slice A0 L0.length c0] 42) = w1 at *
  have cz := szBits_any N0 A0 L0.length c0 (1048576) w1 (by omega) (by omega) (by omega)
  rw [if_neg (show ¬ (1048576 : Int) < (L0.length : Int) by omega)] at cz
  refine cz.mono ?_
  rintro e w2 ⟨rfl, hb⟩
  clear cz
  replace sc := sc.step hb
  clear hb
  have hnz : ¬ (1048576 - (L0.length : Int) < 0) := by omega
  have hnd : decide (1048576 - (L0.length : Int) < 0) = false := by simp; omega
  obtain ⟨fa00, fa01, fa0l⟩ := sc.two 0 rfl
  go_wp2_with fail
  clear fa00 fa01 fa0l
  refine (toBits_new N0 A0 c0 L0 _ (sc.liesOld HL0.out) (by omega)).mono ?_
  rintro e w3 ⟨Ap0, cp0, rfl, ho, hb⟩
  replace sc := sc.row hb ho
  clear hb ho
  obtain ⟨fa00, fa01, fa0l⟩ := sc.two 1 rfl
  go_wp2_with fail
  clear fa00 fa01 fa0l
  refine (specFlip_new N0 _ _ L0 _ (by exact sc.lies 0 rfl) HW0.out).mono ?_
  rintro e w4 ⟨AR0, cR0, rfl, ho, hb⟩
  replace sc := sc.row hb ho
  clear hb ho
  obtain ⟨fa00, fa01, fa0l⟩ := sc.two 2 rfl
  go_wp2_with fail
  clear fa00 fa01 fa0l
  replace sc := sc.box 26 #[.int .i64 (flN N0 L0), .slice AR0 (flW N0 L0).length cR0]
  generalize w4.alloc (Obj.cells #[.int .i64 (flN N0 L0), .slice AR0 (flW N0 L0).length cR0] 26) = w5 at *
  generalize w4.heap.size = sR0 at *
  clear hnz hnd
  obtain ⟨fR00, fR01, fR0l⟩ := sc.two 0 rfl
  obtain ⟨fa00, fa01, fa0l⟩ := sc.two 3 rfl
  go_wp2_with fail
  clear fR00 fR01 fR0l fa00 fa01 fa0l
  refine (toBits_new N0 A0 c0 L0 _ (sc.liesOld HL0.out) (by omega)).mono ?_
  rintro e w6 ⟨Ax0, cx0, rfl, ho, hb⟩
  replace sc := sc.row hb ho
  clear hb ho
  obtain ⟨fR00, fR01, fR0l⟩ := sc.two 1 rfl
  obtain ⟨fa00, fa01, fa0l⟩ := sc.two 4 rfl
  go_wp2_with fail
  clear fR00 fR01 fR0l fa00 fa01 fa0l
  replace sc := sc.box 26 #[.int .i64 N0, .slice Ax0 L0.length cx0]
  generalize w6.alloc (Obj.cells #[.int .i64 N0, .slice Ax0 L0.length cx0] 26) = w7 at *
  generalize w6.heap.size = sx0 at *
  refine (implFlip_new N0 _ _ L0 _ (by exact sc.lies 1 rfl) HW0.out).mono ?_
  rintro e w8 ⟨AG0, cG0, rfl, ho, hb⟩
  replace sc := sc.row hb ho
  clear hb ho
  obtain ⟨fx00, fx01, fx0l⟩ := sc.two 1 rfl
  obtain ⟨fR00, fR01, fR0l⟩ := sc.two 3 rfl
  obtain ⟨fa00, fa01, fa0l⟩ := sc.two 6 rfl
  go_wp2_with fail
  clear fx00 fx01 fx0l fR00 fR01 fR0l fa00 fa01 fa0l
  replace sc := sc.box 26 #[.int .i64 (flN N0 L0), .slice AG0 (flW N0 L0).length cG0]
  generalize w8.alloc (Obj.cells #[.int .i64 (flN N0 L0), .slice AG0 (flW N0 L0).length cG0] 26) = w9 at *
  generalize w8.heap.size = sG0 at *
  refine (eqBits_true _ _ _ _ _ (flW N0 L0) _ (sc.lies 1 rfl) (sc.lies 5 rfl) (by omega)).mono ?_
  rintro e w10 ⟨rfl, hb⟩
  replace sc := sc.step hb
  clear hb
  obtain ⟨fG00, fG01, fG0l⟩ := sc.two 0 rfl
  obtain ⟨fx00, fx01, fx0l⟩ := sc.two 2 rfl
  obtain ⟨fR00, fR01, fR0l⟩ := sc.two 4 rfl
  obtain ⟨fa00, fa01, fa0l⟩ := sc.two 7 rfl
  go_wp2_with fail
  clear fG00 fG01 fG0l fR00 fR01 fR0l
  replace sc := sc.drew
  go_region_held3 (fun w' => w'.cell? ⟨sx0, 0, none⟩ = some (.int .i64 N0) ∧ w'.cell? ⟨sx0, 1, none⟩ = some (.slice Ax0 L0.length cx0) ∧ w'.cell? ⟨w.heap.size, 0, none⟩ = some (.int .i64 N0) ∧ w'.cell? ⟨w.heap.size, 1, none⟩ = some (.slice A0 L0.length c0)) (first | go_keep | (refine ⟨?_, ?_, ?_, ?_⟩ <;> assumption)) (first | (go_at_call 30; (with_reducible refine (toBits_new N0 A0 c0 L0 _ (by exact sc.liesOld HL0.out) (by omega)).mono ?_); rintro e w11 ⟨Ay0, cy0, rfl, ho, hb⟩; replace sc := sc.row hb ho; clear hb ho; obtain ⟨w11x00, w11x01, w11x0l⟩ := sc.two 3 rfl; obtain ⟨w11a00, w11a01, w11a0l⟩ := sc.two 8 rfl) | (go_at_call 23; (with_reducible refine (eqBits_true _ _ _ _ _ L0 _ (by exact sc.lies 4 rfl) (by exact sc.lies 0 rfl) (by omega)).mono ?_); rintro e w12 ⟨rfl, hb⟩; replace sc := sc.step hb; clear hb; obtain ⟨w12x00, w12x01, w12x0l⟩ := sc.two 3 rfl; obtain ⟨w12a00, w12a01, w12a0l⟩ := sc.two 8 rfl))
  have hk0 : (0 : Int) ≤ 1 := by omega
  obtain ⟨fG00, fG01, fG0l⟩ := sc.two 1 rfl
  obtain ⟨fx00, fx01, fx0l⟩ := sc.two 3 rfl
  obtain ⟨fR00, fR01, fR0l⟩ := sc.two 5 rfl
  obtain ⟨fa00, fa01, fa0l⟩ := sc.two 8 rfl
  go_wp2_with fail
  clear fG00 fG01 fG0l fx00 fx01 fx0l fR00 fR01 fR0l fa00 fa01 fa0l
  refine (markBits_any _ _ _ _ 0 (1) _ _ (sc.getRow 4 rfl) (by omega) (by omega) (by omega)).mono ?_
  rintro e w13 ⟨rfl, ho, hg⟩
  replace sc := sc.mark 4 rfl hg ho
  clear ho hg
  simp only [List.set_cons_zero, List.set_cons_succ] at sc
  have dk : decide ((1 + (L0.length : Int) : Int) < 0) = false := by simp; omega
  obtain ⟨fG00, fG01, fG0l⟩ := sc.two 1 rfl
  obtain ⟨fx00, fx01, fx0l⟩ := sc.two 3 rfl
  obtain ⟨fR00, fR01, fR0l⟩ := sc.two 5 rfl
  obtain ⟨fa00, fa01, fa0l⟩ := sc.two 8 rfl
  go_wp2_with fail
  clear fG00 fG01 fG0l fx00 fx01 fx0l fR00 fR01 fR0l fa00 fa01 fa0l
  refine (eqBits_true _ _ _ _ _ (flW N0 L0) _ (sc.lies 2 rfl) (sc.lies 6 rfl) (by omega)).mono ?_
  rintro e w14 ⟨rfl, hb⟩
  replace sc := sc.step hb
  clear hb
  clear dk
  obtain ⟨fG00, fG01, fG0l⟩ := sc.two 1 rfl
  obtain ⟨fx00, fx01, fx0l⟩ := sc.two 3 rfl
  obtain ⟨fR00, fR01, fR0l⟩ := sc.two 5 rfl
  obtain ⟨fa00, fa01, fa0l⟩ := sc.two 8 rfl
  go_wp2_with fail
  clear fG00 fG01 fG0l fx00 fx01 fx0l fR00 fR01 fR0l fa00 fa01 fa0l
  refine (markBits_any _ _ _ _ 0 (1) _ _ (sc.getRow 2 rfl) (by omega) (by omega) (by omega)).mono ?_
  rintro e w15 ⟨rfl, ho, hg⟩
  replace sc := sc.mark 2 rfl hg ho
  clear ho hg
  simp only [List.set_cons_zero, List.set_cons_succ] at sc
  obtain ⟨fG00, fG01, fG0l⟩ := sc.two 1 rfl
  obtain ⟨fx00, fx01, fx0l⟩ := sc.two 3 rfl
  obtain ⟨fR00, fR01, fR0l⟩ := sc.two 5 rfl
  obtain ⟨fa00, fa01, fa0l⟩ := sc.two 8 rfl
  go_wp2_with fail
  clear fG00 fG01 fG0l fx00 fx01 fx0l fR00 fR01 fR0l fa00 fa01 fa0l
  refine (heldBits_any _ _ _ _ 1 _ (lies_ints (sc.getRow 2 rfl)) (by omega) (by omega) (by omega)).mono ?_
  rintro e w16 ⟨rfl, hb⟩
  replace sc := sc.step hb
  clear hb
  have dq : decide ((1 : Int) + ((flW N0 L0).length : Int) < 0) = false := by simp; omega
  have dq2 : ¬ ((1 : Int) + ((flW N0 L0).length : Int) < 0) := by omega
  obtain ⟨fG00, fG01, fG0l⟩ := sc.two 1 rfl
  obtain ⟨fx00, fx01, fx0l⟩ := sc.two 3 rfl
  obtain ⟨fR00, fR01, fR0l⟩ := sc.two 5 rfl
  obtain ⟨fa00, fa01, fa0l⟩ := sc.two 8 rfl
  go_wp2_with fail
  clear fG00 fG01 fG0l fx00 fx01 fx0l fR00 fR01 fR0l fa00 fa01 fa0l
  refine (toBits_new N0 A0 c0 L0 _ (sc.liesOld HL0.out) (by omega)).mono ?_
  rintro e w17 ⟨Aq0, cq0, rfl, ho, hb⟩
  replace sc := sc.row hb ho
  clear hb ho
  obtain ⟨fG00, fG01, fG0l⟩ := sc.two 2 rfl
  obtain ⟨fx00, fx01, fx0l⟩ := sc.two 4 rfl
  obtain ⟨fR00, fR01, fR0l⟩ := sc.two 6 rfl
  obtain ⟨fa00, fa01, fa0l⟩ := sc.two 9 rfl
  go_wp2_with fail
  clear fG00 fG01 fG0l fx00 fx01 fx0l fR00 fR01 fR0l fa00 fa01 fa0l
  refine (implFlip_new N0 _ _ L0 _ (by exact sc.lies 0 rfl) HW0.out).mono ?_
  rintro e w18 ⟨AH0, cH0, rfl, ho, hb⟩
  replace sc := sc.row hb ho
  clear hb ho
  obtain ⟨fG00, fG01, fG0l⟩ := sc.two 3 rfl
  obtain ⟨fx00, fx01, fx0l⟩ := sc.two 5 rfl
  obtain ⟨fR00, fR01, fR0l⟩ := sc.two 7 rfl
  obtain ⟨fa00, fa01, fa0l⟩ := sc.two 10 rfl
  go_wp2_with fail
  clear fG00 fG01 fG0l fx00 fx01 fx0l fR00 fR01 fR0l fa00 fa01 fa0l
  replace sc := sc.box 26 #[.int .i64 (flN N0 L0), .slice AH0 (flW N0 L0).length cH0]
  generalize w18.alloc (Obj.cells #[.int .i64 (flN N0 L0), .slice AH0 (flW N0 L0).length cH0] 26) = w19 at *
  generalize w18.heap.size = sH0 at *
  refine (eqBits_true _ _ _ _ _ (flW N0 L0) _ (sc.lies 1 rfl) (sc.lies 9 rfl) (by omega)).mono ?_
  rintro e w20 ⟨rfl, hb⟩
  replace sc := sc.step hb
  clear hb
  obtain ⟨fH00, fH01, fH0l⟩ := sc.two 0 rfl
  obtain ⟨fG00, fG01, fG0l⟩ := sc.two 4 rfl
  obtain ⟨fx00, fx01, fx0l⟩ := sc.two 6 rfl
  obtain ⟨fR00, fR01, fR0l⟩ := sc.two 8 rfl
  obtain ⟨fa00, fa01, fa0l⟩ := sc.two 11 rfl
  go_wp2_with fail
  clear fH00 fH01 fH0l fG00 fG01 fG0l fx00 fx01 fx0l fR00 fR01 fR0l fa00 fa01 fa0l
  refine (heldBits_any _ _ _ _ 1 _ (lies_ints (sc.getRow 5 rfl)) (by omega) (by omega) (by omega)).mono ?_
  rintro e w21 ⟨rfl, hb⟩
  replace sc := sc.step hb
  clear hb
  have HB := Lib.hid sc.below
  clear sc
  go_wp2
  go_ret
  exact ⟨rfl, HB.out⟩

end Go.Proofs.Ytoiiiidijpenfaa
