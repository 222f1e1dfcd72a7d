/- The law of BitsOf walked. -/
import Derived.Test.YtoiiiidijpenfaaLaws5
import Derived.Test.YtoiiiidijpenfaaWords1
import Derived.Test.YtoiiiidijpenfaaInts2
import Derived.Test.YtoiiiidijpenfaaNewB
import Derived.Test.YtoiiiidijpenfaaOf2
import Derived.Test.YtoiiiidijpenfaaMem3
namespace Go.Proofs.Ytoiiiidijpenfaa
open Go.RowKit

set_option maxHeartbeats 400000 in
theorem lawOf_big (A : Option Addr) (n c : Nat) (w : World) (hn : n ≤ 9223372036854775807) (hbig : 1048576 < n) :
    Calls Try.prog 4 #[.slice A n c] w fun e w' => e = .returned (.bool true) ∧ Below w.heap.size w w' := by
  go_enter Try.func4, Try.ntmps4
  go_wp2
  go_ret
  exact ⟨rfl, Below.refl _ _⟩

set_option maxHeartbeats 1000000 in
theorem lawOf (A : Option Addr) (c : Nat) (L : List Int) (w : World) (hL : Lies w I A L) (hbig : L.length ≤ 1048576) :
    Calls Try.prog 4 #[.slice A L.length c] w fun e w' => e = .returned (.bool true) ∧ Below w.heap.size w w' := by
  have HL := Lib.hid hL
  clear hL
  have d0 : decide ((1048576 : Int) < (L.length : Int)) = false := by simp; omega
  have hR := resW_len L
  have HS : Hid (∀ (W : World) (A : Option Addr) (c : Nat), Lies W I A L → Calls Try.prog 20 #[.slice A L.length c] W (NewBits W (resN L) (resW L) (okBits L))) :=
    Lib.hid fun W A c h => (specOf_any A c L W h (by omega)).mono fun e w' h => newBits_of h
  have HI : Hid (∀ (W : World) (A : Option Addr), Lies W I A L → Calls Try.prog 22 #[.slice A L.length L.length] W (NewBits W (resN L) (resW L) (okBits L))) :=
    Lib.hid fun W A h => (implOf_any A L.length L W h (by omega) (Nat.le_refl _) (by omega)).mono fun e w' h => newBits_of h
  generalize resN L = N at *
  generalize resW L = Ws at *
  generalize okBits L = ok at *
  have HE : Hid (∀ (W : World) (A B : Option Addr) (c d : Nat), Lies W U A Ws → Lies W U B Ws → Calls Try.prog 23 #[.agg #[.int .i64 N, .slice A Ws.length c], .agg #[.int .i64 N, .slice B Ws.length d]] W fun e w' => e = .returned (.bool true) ∧ Below W.heap.size W w') :=
    Lib.hid fun W A B c d h1 h2 => (eqBits_any N N A B c d Ws Ws W h1 h2 (by omega)).mono fun e w' h => ⟨by rw [h.1, decide_eq_true ⟨rfl, rfl⟩], h.2⟩
  go_enter Try.func4, Try.ntmps4
  go_wp2_with fail
  refine (toInt A c L _ HL.out (by omega)).mono ?_
  rintro e w1 ⟨rfl, hown, hb1⟩
  have hX1 : Lies w1 I _ L := Lies.of_own hown
  clear hown
  go_wp2_with fail
  refine (HS.out _ _ _ hX1).mono ?_
  rintro e w2 ⟨AR, cR, rfl, oR2, hb⟩
  have hb2 := below_then hb1 hb
  clear hb hb1 hX1
  go_wp2_with fail
  generalize hW3 : w2.alloc (Obj.cells #[Value.int IntKind.i64 N, Value.slice AR Ws.length cR] 26) = W3
  have hx3 : Box W3 w2.heap.size 26 #[.int .i64 N, .slice AR Ws.length cR] := by rw [← hW3]; exact Box.made _ _ _
  have hb23 : Below w2.heap.size w2 W3 := by rw [← hW3]; go_grown
  have hb3 := below_then hb2 hb23
  have oR3 := own_below oR2 hb23 (Nat.le_refl _)
  have hs3 := hx3.lt
  clear hW3 hb2 hb23
  generalize w2.heap.size = s3 at *
  refine (toInt A c L _ (HL.out.below hb3) (by omega)).mono ?_
  rintro e w4 ⟨rfl, oX4, hb⟩
  have hx4 := hx3.below hb hx3.lt
  have hb4 := below_then hb3 hb
  have oR4 := own_below oR3 hb (Nat.le_refl _)
  have aRX := rows_apart oR3 oX4 (Nat.le_refl _)
  have hs34 := hx4.lt
  have hSX := hb3.size
  clear hb hx3 hb3 oR3
  have hX4 : Lies w4 I _ L := Lies.of_own oX4
  go_wp2_with fail
  refine (HI.out _ _ hX4).mono ?_
  rintro e w5 ⟨AG, cG, rfl, oG5, hb⟩
  have hx5 := hx4.below hb hx4.lt
  have hb5 := below_then hb4 hb
  have oR5 := own_below oR4 hb (Nat.le_refl _)
  have oX5 := own_below oX4 hb (Nat.le_refl _)
  have aRG := rows_apart oR4 oG5 (Nat.le_refl _)
  have aXG := rows_apart oX4 oG5 (Nat.le_refl _)
  have hSG := hb4.size
  have hs45 := hb.size
  clear hb hx4 hb4 hX4 oR4
  have f0 := hx5.cell 0
  have f1 := hx5.cell 1
  have hs5 := hx5.lt
  simp only [List.getElem?_toArray, List.getElem?_cons_zero, List.getElem?_cons_succ] at f0 f1
  go_wp2_with fail
  generalize hW6 : w5.alloc (Obj.cells #[Value.int IntKind.i64 N, Value.slice AG Ws.length cG] 26) = W6
  have hy6 : Box W6 w5.heap.size 26 #[.int .i64 N, .slice AG Ws.length cG] := by rw [← hW6]; exact Box.made _ _ _
  have hb56 : Below w5.heap.size w5 W6 := by rw [← hW6]; go_grown
  have hx6 := hx5.below hb56 hx5.lt
  have hb6 := below_then hb5 hb56
  have oR6 := own_below oR5 hb56 (Nat.le_refl _)
  have oX6 := own_below oX5 hb56 (Nat.le_refl _)
  have oG6 := own_below oG5 hb56 (Nat.le_refl _)
  clear hW6 hb56 hx5 hb5 oR5 oX5 f0 f1 hs5
  refine (HE.out _ _ _ _ _ (Lies.of_own oG6) (Lies.of_own oR6)).mono ?_
  rintro e w7 ⟨rfl, hb⟩
  have hx7 := hx6.below hb hx6.lt
  have hy7 := hy6.below hb hy6.lt
  have hb7 := below_then hb6 hb
  have oR7 := own_below oR6 hb (Nat.le_refl _)
  have oX7 := own_below oX6 hb (Nat.le_refl _)
  have oG7 := own_below oG6 hb (Nat.le_refl _)
  clear hb hx6 hy6 hb6 oR6 oX6 oG6
  have t1 : (ok != ok) = false := by simp
  go_wp2_with fail
  refine (toInt A c L _ (HL.out.below hb7) (by omega)).mono ?_
  rintro e w8 ⟨rfl, oY8, hb⟩
  have hx8 := hx7.below hb hx7.lt
  have hy8 := hy7.below hb hy7.lt
  have hb8 := below_then hb7 hb
  have oR8 := own_below oR7 hb (Nat.le_refl _)
  have oX8 := own_below oX7 hb (Nat.le_refl _)
  have oG8 := own_below oG7 hb (Nat.le_refl _)
  clear hb hx7 hy7 hb7 oR7 oX7 oG7
  go_wp2_with fail
  refine (eqInt _ _ _ _ L L _ (Lies.of_own oX8) (Lies.of_own oY8) (by omega)).mono ?_
  rintro e w9 ⟨rfl, q9, rfl⟩
  rw [decide_eq_true rfl]
  have hx9 : Box (w8.drewN q9) _ _ _ := hx8
  have hy9 : Box (w8.drewN q9) _ _ _ := hy8
  have hb9 := below_dN hb8 q9
  have oR9 : (w8.drewN q9).ownsRow _ _ _ _ _ _ := oR8
  have oX9 : (w8.drewN q9).ownsRow _ _ _ _ _ _ := oX8
  have oG9 : (w8.drewN q9).ownsRow _ _ _ _ _ _ := oG8
  clear hx8 hy8 hb8 oR8 oX8 oG8 oY8
  generalize w8.drewN q9 = w9 at *
  go_wp2_with fail
  refine (markInt _ L.length _ _ 1 _ _ oX9 hbig (by omega) (by omega)).mono ?_
  rintro e w10 ⟨rfl, _, hg⟩
  have hb10 := hb9.trans (grown_below oX9 hg hSX hb9.size)
  have hx10 := box_grown hx9 oX9 hg hs3
  have hy10 := box_apart hy9 oX4 hs45 hg
  have oR10 := oR9.kept hg aRX.1
  have oG10 := oG9.kept hg aXG.2
  clear hb9 hx9 hy9 oR9 oX9 oG9 hg aRX aXG
  have d1 : decide ((1 : Int) + (L.length : Int) < 0) = false := by simp; omega
  have f0 := hx10.cell 0
  have f1 := hx10.cell 1
  have k0 := hy10.cell 0
  have k1 := hy10.cell 1
  simp only [List.getElem?_toArray, List.getElem?_cons_zero, List.getElem?_cons_succ] at f0 f1 k0 k1
  go_wp2_with fail
  refine (HE.out _ _ _ _ _ (Lies.of_own oG10) (Lies.of_own oR10)).mono ?_
  rintro e w11 ⟨rfl, hb⟩
  have hx11 := hx10.below hb hx10.lt
  have hy11 := hy10.below hb hy10.lt
  have hb11 := below_then hb10 hb
  have oR11 := own_below oR10 hb (Nat.le_refl _)
  have oG11 := own_below oG10 hb (Nat.le_refl _)
  clear hb hx10 hy10 hb10 oR10 oG10 f0 f1 k0 k1
  have k0 := hy11.cell 0
  have k1 := hy11.cell 1
  simp only [List.getElem?_toArray, List.getElem?_cons_zero, List.getElem?_cons_succ] at k0 k1
  go_wp2_with fail
  refine (markBits_any N _ Ws.length _ _ 1 _ _ oG11 (by omega) (by omega) (by omega)).mono ?_
  rintro e w12 ⟨rfl, oG12, hg⟩
  have hb12 := hb11.trans (grown_below oG11 hg hSG hb11.size)
  have hx12 := box_grown hx11 oG11 hg hs34
  have hy12 := box_apart hy11 oG5 (Nat.le_refl _) hg
  have oR12 := oR11.kept hg aRG.1
  clear hb11 hx11 hy11 oR11 oG11 hg aRG k0 k1
  have k0 := hy12.cell 0
  have k1 := hy12.cell 1
  simp only [List.getElem?_toArray, List.getElem?_cons_zero, List.getElem?_cons_succ] at k0 k1
  go_wp2_with fail
  refine (heldBits_any N _ Ws.length _ 1 _ (lies_ints oG12) (by omega) (by omega) (by omega)).mono ?_
  rintro e w13 ⟨rfl, hb⟩
  have hx13 := hx12.below hb hx12.lt
  have hy13 := hy12.below hb hy12.lt
  have hb13 := below_then hb12 hb
  have oR13 := own_below oR12 hb (Nat.le_refl _)
  have oG13 := own_below oG12 hb (Nat.le_refl _)
  clear hb hx12 hy12 hb12 oR12 oG12 k0 k1
  have d2 : decide ((1 : Int) + (Ws.length : Int) < 0) = false := by simp; omega
  have d3 : ¬ ((1 : Int) + (Ws.length : Int) < 0) := by omega
  go_wp2_with fail
  refine (toInt A c L _ (HL.out.below hb13) (by omega)).mono ?_
  rintro e w14 ⟨rfl, oZ14, hb⟩
  have hx14 := hx13.below hb hx13.lt
  have hy14 := hy13.below hb hy13.lt
  have hb14 := below_then hb13 hb
  have oR14 := own_below oR13 hb (Nat.le_refl _)
  have oG14 := own_below oG13 hb (Nat.le_refl _)
  have hZ14 : Lies w14 I _ L := Lies.of_own oZ14
  clear hb hx13 hy13 hb13 oR13 oG13 oZ14
  go_wp2_with fail
  refine (HI.out _ _ hZ14).mono ?_
  rintro e w15 ⟨AH, cH, rfl, oH15, hb⟩
  have hx15 := hx14.below hb hx14.lt
  have hy15 := hy14.below hb hy14.lt
  have hb15 := below_then hb14 hb
  have oR15 := own_below oR14 hb (Nat.le_refl _)
  have oG15 := own_below oG14 hb (Nat.le_refl _)
  clear hb hx14 hy14 hb14 hZ14 oR14 oG14
  have f0 := hx15.cell 0
  have f1 := hx15.cell 1
  have hs15 := hx15.lt
  simp only [List.getElem?_toArray, List.getElem?_cons_zero, List.getElem?_cons_succ] at f0 f1
  go_wp2_with fail
  generalize hW16 : w15.alloc (Obj.cells #[Value.int IntKind.i64 N, Value.slice AH Ws.length cH] 26) = W16
  have hb56 : Below w15.heap.size w15 W16 := by rw [← hW16]; go_grown
  have hx16 := hx15.below hb56 hx15.lt
  have hy16 := hy15.below hb56 hy15.lt
  have hb16 := below_then hb15 hb56
  have oR16 := own_below oR15 hb56 (Nat.le_refl _)
  have oH16 := own_below oH15 hb56 (Nat.le_refl _)
  have oG16 := own_below oG15 hb56 (Nat.le_refl _)
  clear hW16 hb56 hx15 hy15 hb15 oR15 oG15 oH15 f0 f1
  refine (HE.out _ _ _ _ _ (Lies.of_own oH16) (Lies.of_own oR16)).mono ?_
  rintro e w17 ⟨rfl, hb⟩
  have hy17 := hy16.below hb hy16.lt
  have hb17 := below_then hb16 hb
  have oG17 := own_below oG16 hb (Nat.le_refl _)
  clear hb hx16 hy16 hb16 oR16 oG16 oH16
  have k0 := hy17.cell 0
  have k1 := hy17.cell 1
  simp only [List.getElem?_toArray, List.getElem?_cons_zero, List.getElem?_cons_succ] at k0 k1
  go_wp2_with fail
  refine (heldBits_any N _ Ws.length _ 1 _ (lies_ints oG17) (by omega) (by omega) (by omega)).mono ?_
  rintro e w18 ⟨rfl, hb⟩
  have HB := Lib.hid (below_then hb17 hb)
  clear hb hy17 hb17 oG17 k0 k1
  go_wp2
  go_ret
  exact ⟨rfl, HB.out⟩

end Go.Proofs.Ytoiiiidijpenfaa
