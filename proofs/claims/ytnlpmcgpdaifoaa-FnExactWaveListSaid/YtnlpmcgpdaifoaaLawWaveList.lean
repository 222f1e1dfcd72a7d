/- The law FnExactWaveList walked (written by mklaws8.py). -/
import Derived.Test.YtnlpmcgpdaifoaaWv7
import Derived.Test.YtnlpmcgpdaifoaaWv10
import Derived.Test.YtnlpmcgpdaifoaaWvLaw2
import Derived.Test.YtnlpmcgpdaifoaaInts2
namespace Go.Proofs.Ytnlpmcgpdaifoaa
open Go.RowKit
set_option maxRecDepth 100000

set_option maxHeartbeats 1600000 in
theorem lawWaveList (N : Int) (ZA : Option Addr) (zc : Nat) (Z : List Int) (LA : Option Addr) (lc : Nat) (P : List LvA) (w : World) (hZ : Lies w I ZA Z) (hr : ∀ z ∈ Z, -9223372036854775808 ≤ z ∧ z ≤ 9223372036854775807) (hL : LiesLw w LA P) (ht : Z.length + totL P ≤ 1048576) :
    Calls Try.prog 6 #[.agg #[.int .i64 N, .slice ZA Z.length zc, .slice LA P.length lc]] w fun e w' => e = .returned (.bool true) ∧ Below w.heap.size w w' := by
  have hle := totL_le P
  have hp : ∀ (k : Nat) (p : LvA), P[k]? = some p → p.L.length ≤ 1048576 := fun k p h => by have := totL_mem h; omega
  have HSz := Lib.hid fun (W : World) (hW : Below w.heap.size w W) => szWave_any N ZA zc Z LA lc P W (hL.below hW) (by omega) (by omega) (fun k p h => Nat.le_trans (hp k p h) (by decide)) (fun n c A W hn => szInt_any n c A W hn)
  have HTo := Lib.hid fun (W : World) (hW : Below w.heap.size w W) => toWave_new N ZA zc Z LA lc P W (hZ.below hW) (hL.below hW) (by omega) (by omega) hp
  have HNum := Lib.hid (wvNum_of hr hL ht)
  have ht2 : Z.length + totV2 (P.map LvA.val) ≤ 1048576 := by rw [← totL_val]; exact ht
  rw [totL_val] at HSz
  obtain ⟨m, hm⟩ : ∃ m, P.length = m := ⟨_, rfl⟩
  rw [hm] at HSz HTo ⊢
  clear hZ hr hL ht hle hp hm
  generalize P.map LvA.val = V at *
  obtain ⟨R, hR⟩ : ∃ R : List Int, wList N Z V = R := ⟨_, rfl⟩
  have hRl : R.length ≤ 1000 := by rw [← hR]; exact wList_len N Z V
  have SP : Hid (∀ (W : World) (lo hi : Nat) (v : Value), WvO W lo hi N Z V v → Calls Try.prog 29 #[v] W (NewI W R)) := Lib.hid fun W lo hi v h => by
    obtain ⟨⟨N', ZA', zc', Z', LA', lc', P'⟩, rfl, ha, rfl, rfl, rfl⟩ := h.wave HNum.out
    have c := specWaveList_any N' ZA' zc' Z' LA' lc' P' W ha
    rw [← hR]
    exact c
  have IM : Hid (∀ (W : World) (lo hi : Nat) (v : Value), WvO W lo hi N Z V v → Calls Try.prog 30 #[v] W (NewI W R)) := Lib.hid fun W lo hi v h => by
    obtain ⟨⟨N', ZA', zc', Z', LA', lc', P'⟩, rfl, ha, rfl, rfl, rfl⟩ := h.wave HNum.out
    have c := implWaveList_any ⟨N', ZA', zc', Z', LA', lc', P'⟩ W ha
    rw [← hR]
    exact c
  have HR := Lib.hid hR
  clear hR
  obtain ⟨t, htt⟩ : ∃ t : Nat, szL 1048576 (Z.length + totV2 V) = (t : Int) := ⟨1048576 - (Z.length + totV2 V), by unfold szL; rw [if_pos ht2]; omega⟩
  rw [htt] at HSz
  have Ht2 := Lib.hid ht2
  clear htt ht2
  have d0 : decide ((t : Int) < 0) = false := by simp
  have HB0 : Hid (Below w.heap.size w (w.alloc (.cells #[.int .i64 N, .slice ZA Z.length zc, .slice LA m lc] 42))) := Lib.hid (by go_grown)
  have HX0 : Hid (Box (w.alloc (.cells #[.int .i64 N, .slice ZA Z.length zc, .slice LA m lc] 42)) w.heap.size 42 #[.int .i64 N, .slice ZA Z.length zc, .slice LA m lc]) := Lib.hid (Box.made _ _ _)
  go_enter Try.func6, Try.ntmps6
  go_wp2_with fail
  generalize w.alloc (.cells #[.int .i64 N, .slice ZA Z.length zc, .slice LA m lc] 42) = w0 at *
  refine (HSz.out w0 HB0.out).mono ?_
  rintro e w1 ⟨rfl, hb1⟩
  have HB1 := Lib.hid (below_then HB0.out hb1)
  have HX1 := Lib.hid (HX0.out.below hb1 HX0.out.lt)
  have x0 := HX1.out.cell 0
  have x1 := HX1.out.cell 1
  have x2 := HX1.out.cell 2
  have xl := HX1.out.lt
  clear hb1 HSz
  go_wp2_with fail
  clear x0 x1 x2 xl
  refine (HTo.out _ HB1.out).mono ?_
  rintro e w2 ⟨v2, rfl, ho2, hb2⟩
  have HB2 := Lib.hid (below_then HB1.out hb2)
  obtain ⟨A2, c2, g2, d2, cs2, Q2, rfl, h2⟩ := ho2
  have HO2 : Hid (WvO w2 w1.heap.size w2.heap.size N Z V (.agg #[.int .i64 N, .slice A2 Z.length c2, .slice (some ⟨g2, 0, none⟩) V.length d2])) := Lib.hid ⟨A2, c2, g2, d2, cs2, Q2, rfl, h2⟩
  have HX2 := Lib.hid (HX1.out.below hb2 HX1.out.lt)
  have x0 := HX2.out.cell 0
  have x1 := HX2.out.cell 1
  have x2 := HX2.out.cell 2
  have xl := HX2.out.lt
  clear h2 hb2 HB1
  go_wp2_with fail
  clear x0 x1 x2 xl
  refine (SP.out w2 _ _ _ HO2.out).mono ?_
  rintro e w3 ⟨A3, c3, rfl, ho3, hb3⟩
  have HB3 := Lib.hid (below_then HB2.out hb3)
  have HX3 := Lib.hid (HX2.out.below hb3 HX2.out.lt)
  have HR3 := Lib.hid ho3
  have HR3b : Hid (∀ k, (Value.slice A3 R.length c3).ownBlock = some k → k < w3.heap.size) := Lib.hid fun k e => (own_typed ho3 e).2.1
  have x0 := HX3.out.cell 0
  have x1 := HX3.out.cell 1
  have x2 := HX3.out.cell 2
  have xl := HX3.out.lt
  clear ho3 hb3 HO2 HB2 SP
  go_wp2_with fail
  clear x0 x1 x2 xl
  refine (HTo.out _ HB3.out).mono ?_
  rintro e w4 ⟨v4, rfl, ho4, hb4⟩
  have HB4 := Lib.hid (below_then HB3.out hb4)
  obtain ⟨A4, c4, g4, d4, cs4, Q4, rfl, h4⟩ := ho4
  have HO4 : Hid (WvO w4 w3.heap.size w4.heap.size N Z V (.agg #[.int .i64 N, .slice A4 Z.length c4, .slice (some ⟨g4, 0, none⟩) V.length d4])) := Lib.hid ⟨A4, c4, g4, d4, cs4, Q4, rfl, h4⟩
  have HX4 := Lib.hid (HX3.out.below hb4 HX3.out.lt)
  have HR4 := Lib.hid (own_below HR3.out hb4 (Nat.le_refl _))
  have hs34 := hb4.size
  clear h4 hb4 HR3
  have HY4 : Hid (Box (w4.alloc (.cells #[.int .i64 N, .slice A4 Z.length c4, .slice (some ⟨g4, 0, none⟩) V.length d4] 27)) w4.heap.size 27 #[.int .i64 N, .slice A4 Z.length c4, .slice (some ⟨g4, 0, none⟩) V.length d4]) := Lib.hid (Box.made _ _ _)
  have HX4' : Hid (Box (w4.alloc (.cells #[.int .i64 N, .slice A4 Z.length c4, .slice (some ⟨g4, 0, none⟩) V.length d4] 27)) w.heap.size 42 #[.int .i64 N, .slice ZA Z.length zc, .slice LA m lc]) := Lib.hid (HX4.out.alloc _)
  have HR4' : Hid ((w4.alloc (.cells #[.int .i64 N, .slice A4 Z.length c4, .slice (some ⟨g4, 0, none⟩) V.length d4] 27)).ownsRow w2.heap.size 3 1 (.slice A3 R.length c3) R.length (R.map I)) := Lib.hid (HR4.out.alloc _)
  have HB4' : Hid (Below w.heap.size w (w4.alloc (.cells #[.int .i64 N, .slice A4 Z.length c4, .slice (some ⟨g4, 0, none⟩) V.length d4] 27))) := Lib.hid (HB4.out.alloc HB4.out.size _)
  have HO4' : Hid (WvO (w4.alloc (.cells #[.int .i64 N, .slice A4 Z.length c4, .slice (some ⟨g4, 0, none⟩) V.length d4] 27)) w3.heap.size w4.heap.size N Z V (.agg #[.int .i64 N, .slice A4 Z.length c4, .slice (some ⟨g4, 0, none⟩) V.length d4])) := Lib.hid (HO4.out.below ((Below.refl _ _).alloc (Nat.le_refl _) _) (Nat.le_refl _))
  have HS4 : Hid (w4.heap.size < (w4.alloc (.cells #[.int .i64 N, .slice A4 Z.length c4, .slice (some ⟨g4, 0, none⟩) V.length d4] 27)).heap.size) := Lib.hid (by rw [World.size_alloc]; omega)
  go_wp2_with fail
  generalize w4.alloc (.cells #[.int .i64 N, .slice A4 Z.length c4, .slice (some ⟨g4, 0, none⟩) V.length d4] 27) = w4b at *
  obtain ⟨sx, hsx⟩ : ∃ sx, w4.heap.size = sx := ⟨_, rfl⟩
  rw [hsx] at HY4 HO4' HS4 hs34
  rw [hsx]
  clear HX4 HB4 HO4 HR4 hsx
  refine (IM.out w4b _ _ _ HO4'.out).mono ?_
  rintro e w5 ⟨A5, c5, rfl, ho5, hb5⟩
  have HB5 := Lib.hid (below_then HB4'.out hb5)
  have HO5 := Lib.hid (HO4'.out.below hb5 (Nat.le_of_lt HS4.out))
  have HS5 : Hid (sx < w5.heap.size) := Lib.hid (Nat.lt_of_lt_of_le HS4.out hb5.size)
  have HX5 := Lib.hid (HX4'.out.below hb5 HX4'.out.lt)
  have HY5 := Lib.hid (HY4.out.below hb5 HY4.out.lt)
  have HR5 := Lib.hid (own_below HR4'.out hb5 (Nat.le_refl _))
  have HG5 := Lib.hid ho5
  clear ho5 hb5 HO4' HB4' HX4' HY4 HR4'
  go_wp2_with fail
  refine (eqInt _ _ _ _ R R _ (Lies.of_own HG5.out) (Lies.of_own HR5.out) (by omega)).mono ?_
  rintro e w6 ⟨rfl, q6, rfl⟩
  rw [decide_eq_true rfl]
  have hd6 := below_dN (Below.refl w5.heap.size w5) q6
  have HB6 := Lib.hid (below_then HB5.out hd6)
  have HO6 := Lib.hid (HO5.out.below hd6 (Nat.le_of_lt HS5.out))
  have HX6 := Lib.hid (HX5.out.below hd6 HX5.out.lt)
  have HY6 := Lib.hid (HY5.out.below hd6 HY5.out.lt)
  have HR6 := Lib.hid (own_below HR5.out hd6 (Nat.le_refl _))
  have HG6 := Lib.hid (own_below HG5.out hd6 (Nat.le_refl _))
  have HS6 : Hid (sx < (w5.drewN q6).heap.size) := Lib.hid HS5.out
  clear HB5 HO5 HX5 HY5 HR5 HG5 HS5 hd6
  generalize w5.drewN q6 = w6 at *
  have KS : Hid (∀ w', Below w6.heap.size w6 w' → w'.cell? ⟨sx, 0, none⟩ = some (.int .i64 N) ∧ w'.cell? ⟨sx, 1, none⟩ = some (.slice A4 Z.length c4) ∧ w'.cell? ⟨sx, 2, none⟩ = some (.slice (some ⟨g4, 0, none⟩) V.length d4) ∧ w'.cell? ⟨w.heap.size, 0, none⟩ = some (.int .i64 N) ∧ w'.cell? ⟨w.heap.size, 1, none⟩ = some (.slice ZA Z.length zc) ∧ w'.cell? ⟨w.heap.size, 2, none⟩ = some (.slice LA m lc)) := Lib.hid fun w' hW => by
    have hx := HX6.out.below hW HX6.out.lt
    have hy := HY6.out.below hW HY6.out.lt
    exact ⟨hy.cell 0, hy.cell 1, hy.cell 2, hx.cell 0, hx.cell 1, hx.cell 2⟩
  have inv : Below w6.heap.size w6 w6.drew := (Below.refl _ _).drew
  obtain ⟨z0, z1, z2, z3, z4, z5⟩ := KS.out _ inv
  have xl := HX6.out.lt
  have yl := HY6.out.lt
  go_wp2_with fail
  go_region_held3 (fun w' => w'.cell? ⟨sx, 0, none⟩ = some (.int .i64 N) ∧ w'.cell? ⟨sx, 1, none⟩ = some (.slice A4 Z.length c4) ∧ w'.cell? ⟨sx, 2, none⟩ = some (.slice (some ⟨g4, 0, none⟩) V.length d4) ∧ w'.cell? ⟨w.heap.size, 0, none⟩ = some (.int .i64 N) ∧ w'.cell? ⟨w.heap.size, 1, none⟩ = some (.slice ZA Z.length zc) ∧ w'.cell? ⟨w.heap.size, 2, none⟩ = some (.slice LA m lc)) (first | exact KS.out _ inv | (go_keep; done) | (refine ⟨?_, ?_, ?_, ?_, ?_, ?_⟩ <;> assumption)) (first | (go_at_call 27; (with_reducible refine Calls.mono (HTo.out _ (below_then HB6.out inv)) ?_); rintro e w7a ⟨v6, rfl, ho6, hb6⟩; obtain ⟨A6, c6, g6, d6, cs6, Q6, rfl, h6⟩ := ho6; have HO6c := Lib.hid (show WvO w7a _ w7a.heap.size N Z V (.agg #[.int .i64 N, .slice A6 Z.length c6, .slice (some ⟨g6, 0, none⟩) V.length d6]) from ⟨A6, c6, g6, d6, cs6, Q6, rfl, h6⟩); replace inv := below_then inv hb6; have HO56 := Lib.hid (HO6.out.below inv (Nat.le_of_lt HS6.out)); clear h6 hb6; obtain ⟨y0, y1, y2, y3, y4, y5⟩ := KS.out _ inv) | (go_at_call 20; (with_reducible refine Calls.mono (eqWvO HNum.out Ht2.out HO56.out HO6c.out) ?_); rintro e w7 ⟨rfl, hb7⟩; replace inv := below_then inv hb7; clear hb7; obtain ⟨y0, y1, y2, y3, y4, y5⟩ := KS.out _ inv))
  have HB7 := Lib.hid (below_then HB6.out inv)
  have HO7 := Lib.hid (HO6.out.below inv (Nat.le_of_lt HS6.out))
  have HX7 := Lib.hid (HX6.out.below inv HX6.out.lt)
  have HR7 := Lib.hid (own_below HR6.out inv (Nat.le_refl _))
  have HG7 := Lib.hid (own_below HG6.out inv (Nat.le_refl _))
  have HS7 : Hid (sx < w7.heap.size) := Lib.hid (Nat.lt_of_lt_of_le HS6.out inv.size)
  have HL3 : Hid (w.heap.size ≤ w3.heap.size ∧ w3.heap.size ≤ sx ∧ sx < w4b.heap.size ∧ w.heap.size < w3.heap.size) := Lib.hid ⟨HB3.out.size, hs34, HS4.out, HX3.out.lt⟩
  clear inv KS HB6 HO6 HX6 HY6 HR6 HG6 HS6 HO6c HO56 z0 z1 z2 z3 z4 z5 hs34
  go_wp2_with fail
  refine (markWvO Ht2.out HO7.out (Nat.le_of_lt HS7.out) (Nat.le_trans HL3.out.2.1 (Nat.le_of_lt HS7.out))).mono ?_
  rintro e w8 ⟨⟨r8, rfl⟩, hi8⟩
  have HR8 := Lib.hid (own_outW HR7.out hi8 fun k e => .inl (HR3b.out k e))
  have HG8 := Lib.hid (own_outW HG7.out hi8 fun k e => .inr (Nat.le_trans (Nat.le_of_lt HL3.out.2.2.1) (own_typed HG7.out e).1))
  have HX8 : Hid (Box w8 w.heap.size 42 #[.int .i64 N, .slice ZA Z.length zc, .slice LA m lc]) := Lib.hid ((hi8.block _ HX7.out.lt (.inl HL3.out.2.2.2)).trans HX7.out)
  have HB8 := Lib.hid (InsideW.below HB7.out hi8 HL3.out.1 HB7.out.size)
  have d8 : decide ((r8 : Int) < 0) = false := by simp
  clear hi8 HB7 HO7 HX7 HR7 HG7 HS7 y0 y1 y2 y3 y4 y5 xl yl
  go_wp2_with fail
  refine (eqInt _ _ _ _ R R _ (Lies.of_own HG8.out) (Lies.of_own HR8.out) (by omega)).mono ?_
  rintro e w9 ⟨rfl, q9, rfl⟩
  rw [decide_eq_true rfl]
  have hd9 := below_dN (Below.refl w8.heap.size w8) q9
  have HB9 := Lib.hid (below_then HB8.out hd9)
  have HX9 := Lib.hid (HX8.out.below hd9 HX8.out.lt)
  have HR9 := Lib.hid (own_below HR8.out hd9 (Nat.le_refl _))
  have HG9 := Lib.hid (own_below HG8.out hd9 (Nat.le_refl _))
  clear HB8 HX8 HR8 HG8 hd9 d8
  generalize w8.drewN q9 = w9 at *
  go_wp2_with fail
  refine (markInt _ _ _ _ 1 _ _ HG9.out (by omega) (by omega) (by omega)).mono ?_
  rintro e w10 ⟨rfl, ho10, hg10⟩
  have HG10 := Lib.hid ho10
  have HX10 : Hid (Box w10 w.heap.size 42 #[.int .i64 N, .slice ZA Z.length zc, .slice LA m lc]) := Lib.hid (HX9.out.grown hg10 fun e => by
    have h1 := (own_typed HG9.out e).1
    have h2 := HL3.out
    omega)
  have HR10 := Lib.hid (own_turn4 HR9.out fun k hk => hg10.block k (own_typed HR9.out hk).2.1 fun e => by
    have h1 := (own_typed HG9.out e.symm).1
    have h2 := HR3b.out k hk
    have h3 := HL3.out
    omega)
  have HB10 := Lib.hid (HB9.out.trans (grown_below HG9.out hg10 (Nat.le_trans HL3.out.1 (Nat.le_trans HL3.out.2.1 (Nat.le_of_lt HL3.out.2.2.1))) HB9.out.size))
  clear ho10 hg10 HB9 HX9 HR9 HG9
  go_wp2_with fail
  refine (heldInt _ _ _ 1 _ (lies_ints HG10.out) (by omega) (by omega) (by omega)).mono ?_
  rintro e w11 ⟨rfl, rfl⟩
  have dq : decide ((1 : Int) + (R.length : Int) < 0) = false := by simp; omega
  have dq2 : ¬ ((1 : Int) + (R.length : Int) < 0) := by omega
  have x0 := HX10.out.cell 0
  have x1 := HX10.out.cell 1
  have x2 := HX10.out.cell 2
  have xl := HX10.out.lt
  go_wp2_with fail
  clear x0 x1 x2 xl dq dq2
  refine (HTo.out _ HB10.out).mono ?_
  rintro e w12 ⟨v12, rfl, ho12, hb12⟩
  have HB12 := Lib.hid (below_then HB10.out hb12)
  obtain ⟨A12, c12, g12, d12, cs12, Q12, rfl, h12⟩ := ho12
  have HO12 : Hid (WvO w12 w10.heap.size w12.heap.size N Z V (.agg #[.int .i64 N, .slice A12 Z.length c12, .slice (some ⟨g12, 0, none⟩) V.length d12])) := Lib.hid ⟨A12, c12, g12, d12, cs12, Q12, rfl, h12⟩
  have HR12 := Lib.hid (own_below HR10.out hb12 (Nat.le_refl _))
  have HG12 := Lib.hid (own_below HG10.out hb12 (Nat.le_refl _))
  clear h12 hb12 HB10 HX10 HR10 HG10
  go_wp2_with fail
  refine (IM.out w12 _ _ _ HO12.out).mono ?_
  rintro e w13 ⟨A13, c13, rfl, ho13, hb13⟩
  have HB13 := Lib.hid (below_then HB12.out hb13)
  have HR13 := Lib.hid (own_below HR12.out hb13 (Nat.le_refl _))
  have HG13 := Lib.hid (own_below HG12.out hb13 (Nat.le_refl _))
  have HN13 := Lib.hid ho13
  clear ho13 hb13 HB12 HR12 HG12 HO12
  go_wp2_with fail
  refine (eqInt _ _ _ _ R R _ (Lies.of_own HN13.out) (Lies.of_own HR13.out) (by omega)).mono ?_
  rintro e w14 ⟨rfl, q14, rfl⟩
  rw [decide_eq_true rfl]
  have hd14 := below_dN (Below.refl w13.heap.size w13) q14
  have HB14 := Lib.hid (below_then HB13.out hd14)
  have HG14 := Lib.hid (own_below HG13.out hd14 (Nat.le_refl _))
  clear HB13 HR13 HG13 HN13 hd14
  generalize w13.drewN q14 = w14 at *
  go_wp2_with fail
  refine (heldInt _ _ _ 1 _ (lies_ints HG14.out) (by omega) (by omega) (by omega)).mono ?_
  rintro e w15 ⟨rfl, rfl⟩
  have dq : decide ((1 : Int) + (R.length : Int) < 0) = false := by simp; omega
  have dq2 : ¬ ((1 : Int) + (R.length : Int) < 0) := by omega
  go_wp2
  go_ret
  exact ⟨rfl, HB14.out⟩

set_option maxHeartbeats 400000 in
theorem lawWaveList_big (N : Int) (ZA : Option Addr) (zc : Nat) (Z : List Int) (LA : Option Addr) (lc : Nat) (P : List LvA) (w : World) (hL : LiesLw w LA P) (hz : Z.length ≤ 9223372036854775807) (hP : P.length ≤ 9223372036854775807) (hp : ∀ (k : Nat) (p : LvA), P[k]? = some p → p.L.length ≤ 9223372036854775807) (ht : 1048576 < Z.length + totL P) :
    Calls Try.prog 6 #[.agg #[.int .i64 N, .slice ZA Z.length zc, .slice LA P.length lc]] w fun e w' => e = .returned (.bool true) ∧ Below w.heap.size w w' := by
  have HB0 : Hid (Below w.heap.size w (w.alloc (.cells #[.int .i64 N, .slice ZA Z.length zc, .slice LA P.length lc] 42))) := Lib.hid (by go_grown)
  have HSz := Lib.hid (szWave_any N ZA zc Z LA lc P _ (hL.below HB0.out) hz hP hp (fun n c A W hn => szInt_any n c A W hn))
  rw [show szL 1048576 (Z.length + totL P) = -1 by unfold szL; rw [if_neg (by omega)]] at HSz
  clear hL hz hP hp ht
  go_enter Try.func6, Try.ntmps6
  go_wp2_with fail
  refine HSz.out.mono ?_
  rintro e w1 ⟨rfl, hb1⟩
  have HB1 := Lib.hid (below_then HB0.out hb1)
  clear hb1
  go_wp2
  go_ret
  exact ⟨rfl, HB1.out⟩

end Go.Proofs.Ytnlpmcgpdaifoaa
