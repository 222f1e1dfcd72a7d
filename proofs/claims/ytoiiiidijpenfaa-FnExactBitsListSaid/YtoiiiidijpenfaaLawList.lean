/- The law of BitsList walked. -/
import Derived.Test.YtoiiiidijpenfaaLaws4
import Derived.Test.YtoiiiidijpenfaaLaws5
import Derived.Test.YtoiiiidijpenfaaWords1
import Derived.Test.YtoiiiidijpenfaaList2
import Derived.Test.YtoiiiidijpenfaaMem3
namespace Go.Proofs.Ytoiiiidijpenfaa
open Go.RowKit

set_option maxHeartbeats 400000 in
theorem lawList_big (N : Int) (A : Option Addr) (n c : Nat) (w : World) (hn : n ≤ 9223372036854775807) (hbig : 1048576 < n) :
    Calls Try.prog 6 #[.agg #[.int .i64 N, .slice A n c]] w fun e w' => e = .returned (.bool true) ∧ Below w.heap.size w w' := by
  have c1 := fun W => szBits_any N A n c 1048576 W hn (by omega) (by omega)
  simp only [if_pos (show (1048576 : Int) < (n : Int) by omega)] at c1
  have C := Lib.hid c1
  clear c1
  go_enter Try.func6, Try.ntmps6
  go_wp2_with fail
  refine (C.out _).mono ?_
  rintro e w1 ⟨rfl, hb⟩
  have HB := Lib.hid hb
  clear hb
  go_wp2
  go_ret
  exact ⟨rfl, Below.trans (by go_grown) (HB.out.mono (by go_size))⟩

theorem listV_len (N : Int) (L : List Nat) : (listV N L).length ≤ 5000 := by
  unfold listV
  split
  · rename_i h
    obtain ⟨n, rfl, hn, _⟩ := okB_nat h
    rw [bitsOf_len]
    exact hn
  · simp

set_option maxHeartbeats 800000 in
theorem lawList (N : Int) (A : Option Addr) (c : Nat) (L : List Nat) (w : World) (hL : Lies w U A L) (hbig : L.length ≤ 1048576) (hw : ∀ x ∈ L, x < 2 ^ 64) :
    Calls Try.prog 6 #[.agg #[.int .i64 N, .slice A L.length c]] w fun e w' => e = .returned (.bool true) ∧ Below w.heap.size w w' := by
  have HW := Lib.hid hw
  have HL := Lib.hid hL
  clear hw hL
  have c1 := fun W => szBits_any N A L.length c 1048576 W (by omega) (by omega) (by omega)
  simp only [if_neg (show ¬ (1048576 : Int) < (L.length : Int) by omega)] at c1
  have C := Lib.hid c1
  clear c1
  have hM := listV_len N L
  go_enter Try.func6, Try.ntmps6
  go_wp2_with fail
  generalize hW0 : w.alloc (Obj.cells #[Value.int IntKind.i64 N, Value.slice A L.length c] 42) = W0
  have hx0 : Box W0 w.heap.size 42 #[.int .i64 N, .slice A L.length c] := by rw [← hW0]; exact Box.made _ _ _
  have hb0 : Below w.heap.size w W0 := by rw [← hW0]; go_grown
  clear hW0
  refine (C.out _).mono ?_
  rintro e w1 ⟨rfl, hb⟩
  have hx1 := hx0.below hb hx0.lt
  have hb1 := below_then hb0 hb
  clear hx0 hb0 hb
  have f0 := hx1.cell 0
  have f1 := hx1.cell 1
  simp only [List.getElem?_toArray, List.getElem?_cons_zero, List.getElem?_cons_succ] at f0 f1
  have hnz : ¬ ((1048576 : Int) - L.length < 0) := by omega
  go_wp2_with fail
  refine (toBits_any N A c L _ (HL.out.below hb1) (by omega)).mono ?_
  rintro e w2 ⟨rfl, hown, hb⟩
  have hx2 := hx1.below hb hx1.lt
  have hb2 := below_then hb1 hb
  have hX2 : Lies w2 U _ L := Lies.of_own hown
  clear hx1 hb1 hb hown f0 f1 hnz C
  go_wp2_with fail
  refine (specList_any N _ _ L _ hX2 HW.out).mono ?_
  rintro e w3 ⟨vW, rfl, oW3, hb⟩
  have hx3 := hx2.below hb hx2.lt
  have hb3 := below_then hb2 hb
  clear hx2 hb2 hb hX2
  generalize hMe : listV N L = M at *
  have HMe := Lib.hid hMe
  clear hMe
  obtain ⟨AW, cW, rfl⟩ := own_slice oW3
  have f0 := hx3.cell 0
  have f1 := hx3.cell 1
  simp only [List.getElem?_toArray, List.getElem?_cons_zero, List.getElem?_cons_succ] at f0 f1
  go_wp2_with fail
  refine (toBits_any N A c L _ (HL.out.below hb3) (by omega)).mono ?_
  rintro e w4 ⟨rfl, oX4, hb⟩
  have hx4 := hx3.below hb hx3.lt
  have hS3 := hx3.lt
  have aWX := rows_apart oW3 oX4 (Nat.le_refl _)
  have hb4 := below_then hb3 hb
  have oW4 := own_below oW3 hb (Nat.le_refl _)
  clear hx3 hb3 f0 f1 hb
  generalize w3.heap.size + 3 = g at *
  go_wp2_with fail
  generalize hW5 : w4.alloc (Obj.cells #[Value.int IntKind.i64 N, Value.slice (some ⟨g, 0, none⟩) L.length L.length] 26) = W5
  have hy5 : Box W5 w4.heap.size 26 #[.int .i64 N, .slice (some ⟨g, 0, none⟩) L.length L.length] := by rw [← hW5]; exact Box.made _ _ _
  have hb45 : Below w4.heap.size w4 W5 := by rw [← hW5]; go_grown
  have hx5 := hx4.below hb45 hx4.lt
  have hb5 := below_then hb4 hb45
  have oW5 := own_below oW4 hb45 (Nat.le_refl _)
  have oX5 := own_below oX4 hb45 (Nat.le_refl _)
  have hS5 := hx5.lt
  have hs5 := hy5.lt
  have hs34 := oW4.lt
  have hsX : ∀ k, (Value.slice (some ⟨g, 0, none⟩) L.length L.length).ownBlock = some k → k < w4.heap.size := fun k hk => (oX4.lt k hk).2
  clear hx4 hb4 hW5 hb45 oW4 hs34
  generalize hse : w4.heap.size = s at *
  clear hse
  have c2 := implList_any N _ L.length L _ (Lies.of_own oX5) HW.out
  rw [HMe.out] at c2
  refine c2.mono ?_
  rintro e w6 ⟨vG, rfl, oG6, hb⟩
  obtain ⟨AG, cG, rfl⟩ := own_slice oG6
  have hx6 := hx5.below hb hx5.lt
  have hy6 := hy5.below hb hy5.lt
  have hb6 := below_then hb5 hb
  have oW6 := own_below oW5 hb (Nat.le_refl _)
  have oX6 := own_below oX5 hb (Nat.le_refl _)
  have aWG := rows_apart oW5 oG6 (Nat.le_refl _)
  have aXG := rows_apart oX5 oG6 (Nat.le_refl _)
  clear c2 hb hx5 hy5 hb5
  go_wp2_with fail
  refine (eqInt _ _ _ _ M M _ (Lies.of_own oG6) (Lies.of_own oW6) (by omega)).mono ?_
  rintro e w7 ⟨rfl, q7, rfl⟩
  rw [decide_eq_true rfl]
  have hx7 : Box (w6.drewN q7) _ _ _ := hx6
  have hy7 : Box (w6.drewN q7) _ _ _ := hy6
  have hb7 := below_dN hb6 q7
  have oW7 : (w6.drewN q7).ownsRow _ _ _ _ _ _ := oW6
  have oX7 : (w6.drewN q7).ownsRow _ _ _ _ _ _ := oX6
  have oG7 : (w6.drewN q7).ownsRow _ _ _ _ _ _ := oG6
  clear hx6 hy6 hb6 oW6 oX6 oG6
  generalize w6.drewN q7 = w7 at *
  have f0 := hx7.cell 0
  have f1 := hx7.cell 1
  have k0 := hy7.cell 0
  have k1 := hy7.cell 1
  have hs7 := hy7.lt
  have hS7 := hx7.lt
  simp only [List.getElem?_toArray, List.getElem?_cons_zero, List.getElem?_cons_succ] at f0 f1 k0 k1
  have HX := Lib.hid (show Lies w7 U (some ⟨g, 0, none⟩) L from Lies.of_own oX7)
  have HL7 := Lib.hid (HL.out.below hb7)
  have HB7 := Lib.hid hb7
  have HE : Hid (∀ (W : World) (B : Option Addr) (d : Nat), Lies W U (some ⟨g, 0, none⟩) L → Lies W U B L → Calls Try.prog 23 #[.agg #[.int .i64 N, .slice (some ⟨g, 0, none⟩) L.length L.length], .agg #[.int .i64 N, .slice B L.length d]] W fun e w' => e = .returned (.bool true) ∧ Below W.heap.size W w') :=
    Lib.hid fun W B d h1 h2 => (eqBits_any N N _ B _ d L L W h1 h2 (by omega)).mono fun e w' h => ⟨by rw [h.1, decide_eq_true ⟨rfl, rfl⟩], h.2⟩
  have HoW := Lib.hid oW7
  have HoX := Lib.hid oX7
  have HoG := Lib.hid oG7
  have HaWG := Lib.hid aWG
  have HaXG := Lib.hid aXG
  have HsX := Lib.hid hsX
  have HaWX := Lib.hid aWX
  have Hx := Lib.hid hx7
  have Hy := Lib.hid hy7
  clear oW7 oX7 oG7 aWG aXG aWX hsX hx7 hy7 hb7 oW5 oX5 oX4 oW3
  go_wp2
  go_region_held3 (fun w' => w'.cell? ⟨s, 0, none⟩ = some (.int .i64 N) ∧ w'.cell? ⟨s, 1, none⟩ = some (.slice (some ⟨g, 0, none⟩) L.length L.length) ∧ w'.cell? ⟨w.heap.size, 0, none⟩ = some (.int .i64 N) ∧ w'.cell? ⟨w.heap.size, 1, none⟩ = some (.slice A L.length c)) (first | go_keep | (refine ⟨?_, ?_, ?_, ?_⟩ <;> assumption))
    (first | (go_at_call 30; refine (toBits_any N A c L _ (by exact HL7.out.drew) (by omega)).mono ?_; rintro e w8 ⟨rfl, hown8, hb8⟩; have HO8 := Lib.hid hown8; have HB8 := Lib.hid hb8; have k08 := (hb8.cell (p := ⟨s, 0, none⟩) hs7).trans k0; have k18 := (hb8.cell (p := ⟨s, 1, none⟩) hs7).trans k1; have f08 := (hb8.cell (p := ⟨w.heap.size, 0, none⟩) hS7).trans f0; have f18 := (hb8.cell (p := ⟨w.heap.size, 1, none⟩) hS7).trans f1; clear hown8 hb8) | (go_at_call 23; refine (HE.out _ _ _ (by exact HX.out.drew.below HB8.out) (by exact Lies.of_own HO8.out)).mono ?_; rintro e w9 ⟨rfl, hb9⟩; have HB9 := Lib.hid hb9; have k09 := (hb9.cell (p := ⟨s, 0, none⟩) (Nat.lt_of_lt_of_le hs7 HB8.out.size)).trans k08; have k19 := (hb9.cell (p := ⟨s, 1, none⟩) (Nat.lt_of_lt_of_le hs7 HB8.out.size)).trans k18; have f09 := (hb9.cell (p := ⟨w.heap.size, 0, none⟩) (Nat.lt_of_lt_of_le hS7 HB8.out.size)).trans f08; have f19 := (hb9.cell (p := ⟨w.heap.size, 1, none⟩) (Nat.lt_of_lt_of_le hS7 HB8.out.size)).trans f18; clear hb9))
  have hb79 : Below w7.heap.size w7 w9 := ((Below.refl _ _).drew.trans HB8.out).trans (HB9.out.mono HB8.out.size)
  have hx9 := Hx.out.below hb79 Hx.out.lt
  have hy9 := Hy.out.below hb79 Hy.out.lt
  have hb9 := below_then HB7.out hb79
  have oW9 := own_below HoW.out hb79 (Nat.le_refl _)
  have oX9 := own_below HoX.out hb79 (Nat.le_refl _)
  have oG9 := own_below HoG.out hb79 (Nat.le_refl _)
  clear hb79 HE HX HL7 HB7 HO8 HB8 HB9 HoW HoX HoG Hx Hy
  go_wp2_with fail
  refine (markBits_any N _ L.length _ _ 1 _ _ oX9 hbig (by omega) (by omega)).mono ?_
  rintro e w10 ⟨rfl, _, hg⟩
  have hb10 := hb9.trans (grown_below oX9 hg (Nat.le_of_lt hS3) hb9.size)
  have hx10 := box_grown hx9 oX9 hg hS3
  have oW10 := oW9.kept hg HaWX.out.1
  have oG10 := oG9.kept hg HaXG.out.2
  clear hb9 hx9 oW9 oX9 oG9 hg HaWX HaXG hy9 HsX
  have d1 : decide ((1 : Int) + (L.length : Int) < 0) = false := by simp; omega
  go_wp2_with fail
  refine (eqInt _ _ _ _ M M _ (Lies.of_own oG10) (Lies.of_own oW10) (by omega)).mono ?_
  rintro e w11 ⟨rfl, q11, rfl⟩
  rw [decide_eq_true rfl]
  have hx11 : Box (w10.drewN q11) _ _ _ := hx10
  have hb11 := below_dN hb10 q11
  have oW11 : (w10.drewN q11).ownsRow _ _ _ _ _ _ := oW10
  have oG11 : (w10.drewN q11).ownsRow _ _ _ _ _ _ := oG10
  clear hx10 hb10 oW10 oG10
  generalize w10.drewN q11 = w11 at *
  go_wp2_with fail
  refine (markInt _ M.length _ _ 1 _ _ oG11 (by omega) (by omega) (by omega)).mono ?_
  rintro e w12 ⟨rfl, oG12, hg⟩
  have hb12 := hb11.trans (grown_below oG11 hg (Nat.le_of_lt hS5) hb11.size)
  have hx12 := box_grown hx11 oG11 hg hS5
  have oW12 := oW11.kept hg HaWG.out.1
  clear hb11 hx11 oW11 oG11 hg HaWG
  have d2 : decide ((1 : Int) + (M.length : Int) < 0) = false := by simp; omega
  have d3 : ¬ ((1 : Int) + (M.length : Int) < 0) := by omega
  go_wp2_with fail
  refine (heldInt _ M.length _ 1 _ (lies_ints oG12) (by omega) (by omega) (by omega)).mono ?_
  rintro e w13 ⟨rfl, rfl⟩
  have f0 := hx12.cell 0
  have f1 := hx12.cell 1
  simp only [List.getElem?_toArray, List.getElem?_cons_zero, List.getElem?_cons_succ] at f0 f1
  go_wp2_with fail
  refine (toBits_any N A c L _ (HL.out.below hb12) (by omega)).mono ?_
  rintro e w14 ⟨rfl, hown, hb⟩
  have hb14 := below_then hb12 hb
  have oW14 := own_below oW12 hb (Nat.le_refl _)
  have oG14 := own_below oG12 hb (Nat.le_refl _)
  have hX14 : Lies w14 U _ L := Lies.of_own hown
  clear hb12 hb hown f0 f1 oW12 oG12 hx12
  go_wp2_with fail
  have c3 := implList_any N _ L.length L _ hX14 HW.out
  rw [HMe.out] at c3
  refine c3.mono ?_
  rintro e w15 ⟨vH, rfl, oH15, hb⟩
  obtain ⟨AH, cH, rfl⟩ := own_slice oH15
  have hb15 := below_then hb14 hb
  have oW15 := own_below oW14 hb (Nat.le_refl _)
  have oG15 := own_below oG14 hb (Nat.le_refl _)
  clear c3 hb hb14 oW14 oG14 hX14
  go_wp2_with fail
  refine (eqInt _ _ _ _ M M _ (Lies.of_own oH15) (Lies.of_own oW15) (by omega)).mono ?_
  rintro e w16 ⟨rfl, q16, rfl⟩
  rw [decide_eq_true rfl]
  have hb16 := below_dN hb15 q16
  have oG16 : (w15.drewN q16).ownsRow _ _ _ _ _ _ := oG15
  clear hb15 oG15 oW15 oH15
  generalize w15.drewN q16 = w16 at *
  go_wp2_with fail
  refine (heldInt _ M.length _ 1 _ (lies_ints oG16) (by omega) (by omega) (by omega)).mono ?_
  rintro e w17 ⟨rfl, rfl⟩
  clear oG16
  go_wp2
  go_ret
  exact ⟨rfl, hb16⟩

end Go.Proofs.Ytoiiiidijpenfaa
