/- The law FnExactWaveSelect walked (written by mklaws8.py). -/
import Derived.Test.YtnlpmcgpdaifoaaDoorWv14
import Derived.Test.YtnlpmcgpdaifoaaDoorWvLaw2
namespace Go.Proofs.YtnlpmcgpdaifoaaDoor
open Go.RowKit
set_option maxRecDepth 100000

set_option maxHeartbeats 1600000 in
theorem lawWaveSelect (N : Int) (ZA : Option Addr) (zc : Nat) (Z : List Int) (LA : Option Addr) (lc : Nat) (P : List LvA) (x k : Int) (w : World) (hZ : Lies w I ZA Z) (hr : ∀ z ∈ Z, -9223372036854775808 ≤ z ∧ z ≤ 9223372036854775807) (hL : LiesLw w LA P) (ht : Z.length + totL P ≤ 1048576) (hk1 : -9223372036854775808 ≤ k) (hk2 : k ≤ 9223372036854775807) (hT : Tab w) :
    Calls Tryd.prog 4 #[.agg #[.int .i64 N, .slice ZA Z.length zc, .slice LA P.length lc], .int .i64 x, .int .i64 k] w fun e w' => e = .returned (.bool true) ∧ Below w.heap.size w w' := by
  have HT := Lib.hid hT
  clear hT
  have hle := totL_le P
  have hp : ∀ (k : Nat) (p : LvA), P[k]? = some p → p.L.length ≤ 1048576 := fun k p h => by have := totL_mem h; omega
  have HSz := Lib.hid fun (W : World) (hW : Below w.heap.size w W) => szWave_any N ZA zc Z LA lc P W (hL.below hW) (by omega) (by omega) (fun k p h => Nat.le_trans (hp k p h) (by decide)) (fun n c A W hn => szInt_any n c A W hn)
  have HTo := Lib.hid fun (W : World) (hW : Below w.heap.size w W) => toWave_new N ZA zc Z LA lc P W (hZ.below hW) (hL.below hW) (by omega) (by omega) hp
  have HNum := Lib.hid (wvNum_of hr hL ht)
  have ht2 : Z.length + totV2 (P.map LvA.val) ≤ 1048576 := by rw [← totL_val]; exact ht
  rw [totL_val] at HSz
  obtain ⟨m, hm⟩ : ∃ m, P.length = m := ⟨_, rfl⟩
  rw [hm] at HSz HTo ⊢
  clear hZ hr hL ht hle hp hm
  generalize P.map LvA.val = V at *
  obtain ⟨R, hR⟩ : ∃ R : Int, wSel N Z V x k = R := ⟨_, rfl⟩
  have SP : Hid (∀ (W : World) (lo hi : Nat) (v : Value), WvO W lo hi N Z V v → Tab W → Calls Tryd.prog 18 #[v, .int .i64 x, .int .i64 k] W fun e w' => e = .returned (.int .i64 R) ∧ Below W.heap.size W w') := Lib.hid fun W lo hi v h hTW => by
    obtain ⟨⟨N', ZA', zc', Z', LA', lc', P'⟩, rfl, ha, rfl, rfl, rfl⟩ := h.wave HNum.out
    have c := specWaveSelect_any N' ZA' zc' Z' LA' lc' P' x k W ha hk1 hk2
    exact c.mono fun _ _ h => ⟨by rw [h.1, ← hR] <;> rfl, h.2⟩
  have IM : Hid (∀ (W : World) (lo hi : Nat) (v : Value), WvO W lo hi N Z V v → Tab W → Calls Tryd.prog 16 #[v, .int .i64 x, .int .i64 k] W fun e w' => e = .returned (.int .i64 R) ∧ Below W.heap.size W w') := Lib.hid fun W lo hi v h hTW => by
    obtain ⟨⟨N', ZA', zc', Z', LA', lc', P'⟩, rfl, ha, rfl, rfl, rfl⟩ := h.wave HNum.out
    have c := implWaveSelect_any ⟨N', ZA', zc', Z', LA', lc', P'⟩ x k W ha hTW
    exact c.mono fun _ _ h => ⟨by rw [h.1, ← hR] <;> rfl, h.2⟩
  have HR := Lib.hid hR
  clear hR hk1 hk2
  obtain ⟨t, htt⟩ : ∃ t : Nat, szL 1048576 (Z.length + totV2 V) = (t : Int) := ⟨1048576 - (Z.length + totV2 V), by unfold szL; rw [if_pos ht2]; omega⟩
  rw [htt] at HSz
  have Ht2 := Lib.hid ht2
  clear htt ht2
  have d0 : decide ((t : Int) < 0) = false := by simp
  have tr : (R != R) = false := by simp
  have HB0 : Hid (Below w.heap.size w (w.alloc (.cells #[.int .i64 N, .slice ZA Z.length zc, .slice LA m lc] 40))) := Lib.hid (by go_grown)
  have HX0 : Hid (Box (w.alloc (.cells #[.int .i64 N, .slice ZA Z.length zc, .slice LA m lc] 40)) w.heap.size 40 #[.int .i64 N, .slice ZA Z.length zc, .slice LA m lc]) := Lib.hid (Box.made _ _ _)
  go_enter Tryd.func4, Tryd.ntmps4
  go_wp2_with fail
  generalize w.alloc (.cells #[.int .i64 N, .slice ZA Z.length zc, .slice LA m lc] 40) = w0 at *
  refine (HSz.out w0 HB0.out).mono ?_
  rintro e w1 ⟨rfl, hb1⟩
  have HB1 := Lib.hid (below_then HB0.out hb1)
  have HX1 := Lib.hid (HX0.out.below hb1 HX0.out.lt)
  have x0 := HX1.out.cell 0
  have x1 := HX1.out.cell 1
  have x2 := HX1.out.cell 2
  have xl := HX1.out.lt
  clear hb1 HSz
  go_wp2_with fail
  clear x0 x1 x2 xl
  refine (HTo.out _ HB1.out).mono ?_
  rintro e w2 ⟨v2, rfl, ho2, hb2⟩
  have HB2 := Lib.hid (below_then HB1.out hb2)
  obtain ⟨A2, c2, g2, d2, cs2, Q2, rfl, h2⟩ := ho2
  have HO2 : Hid (WvO w2 w1.heap.size w2.heap.size N Z V (.agg #[.int .i64 N, .slice A2 Z.length c2, .slice (some ⟨g2, 0, none⟩) V.length d2])) := Lib.hid ⟨A2, c2, g2, d2, cs2, Q2, rfl, h2⟩
  have HX2 := Lib.hid (HX1.out.below hb2 HX1.out.lt)
  have x0 := HX2.out.cell 0
  have x1 := HX2.out.cell 1
  have x2 := HX2.out.cell 2
  have xl := HX2.out.lt
  clear h2 hb2 HB1
  go_wp2_with fail
  clear x0 x1 x2 xl
  refine (SP.out w2 _ _ _ HO2.out (HT.out.below HB2.out)).mono ?_
  rintro e w3 ⟨rfl, hb3⟩
  have HB3 := Lib.hid (below_then HB2.out hb3)
  have HX3 := Lib.hid (HX2.out.below hb3 HX2.out.lt)
  have x0 := HX3.out.cell 0
  have x1 := HX3.out.cell 1
  have x2 := HX3.out.cell 2
  have xl := HX3.out.lt
  clear hb3 HO2 HB2 SP
  go_wp2_with fail
  clear x0 x1 x2 xl
  refine (HTo.out _ HB3.out).mono ?_
  rintro e w4 ⟨v4, rfl, ho4, hb4⟩
  have HB4 := Lib.hid (below_then HB3.out hb4)
  obtain ⟨A4, c4, g4, d4, cs4, Q4, rfl, h4⟩ := ho4
  have HO4 : Hid (WvO w4 w3.heap.size w4.heap.size N Z V (.agg #[.int .i64 N, .slice A4 Z.length c4, .slice (some ⟨g4, 0, none⟩) V.length d4])) := Lib.hid ⟨A4, c4, g4, d4, cs4, Q4, rfl, h4⟩
  have HX4 := Lib.hid (HX3.out.below hb4 HX3.out.lt)
  clear h4 hb4 HB3
  have HY4 : Hid (Box (w4.alloc (.cells #[.int .i64 N, .slice A4 Z.length c4, .slice (some ⟨g4, 0, none⟩) V.length d4] 28)) w4.heap.size 28 #[.int .i64 N, .slice A4 Z.length c4, .slice (some ⟨g4, 0, none⟩) V.length d4]) := Lib.hid (Box.made _ _ _)
  have HX4' : Hid (Box (w4.alloc (.cells #[.int .i64 N, .slice A4 Z.length c4, .slice (some ⟨g4, 0, none⟩) V.length d4] 28)) w.heap.size 40 #[.int .i64 N, .slice ZA Z.length zc, .slice LA m lc]) := Lib.hid (HX4.out.alloc _)
  have HB4' : Hid (Below w.heap.size w (w4.alloc (.cells #[.int .i64 N, .slice A4 Z.length c4, .slice (some ⟨g4, 0, none⟩) V.length d4] 28))) := Lib.hid (HB4.out.alloc HB4.out.size _)
  have HO4' : Hid (WvO (w4.alloc (.cells #[.int .i64 N, .slice A4 Z.length c4, .slice (some ⟨g4, 0, none⟩) V.length d4] 28)) w3.heap.size w4.heap.size N Z V (.agg #[.int .i64 N, .slice A4 Z.length c4, .slice (some ⟨g4, 0, none⟩) V.length d4])) := Lib.hid (HO4.out.below ((Below.refl _ _).alloc (Nat.le_refl _) _) (Nat.le_refl _))
  have HS4 : Hid (w4.heap.size ≤ (w4.alloc (.cells #[.int .i64 N, .slice A4 Z.length c4, .slice (some ⟨g4, 0, none⟩) V.length d4] 28)).heap.size) := Lib.hid (by rw [World.size_alloc]; omega)
  go_wp2_with fail
  generalize w4.alloc (.cells #[.int .i64 N, .slice A4 Z.length c4, .slice (some ⟨g4, 0, none⟩) V.length d4] 28) = w4b at *
  obtain ⟨sx, hsx⟩ : ∃ sx, w4.heap.size = sx := ⟨_, rfl⟩
  rw [hsx] at HY4 HO4' HS4
  rw [hsx]
  clear HX4 HB4 HO4 hsx
  refine (IM.out w4b _ _ _ HO4'.out (HT.out.below HB4'.out)).mono ?_
  rintro e w5 ⟨rfl, hb5⟩
  have HB5 := Lib.hid (below_then HB4'.out hb5)
  have HO5 := Lib.hid (HO4'.out.below hb5 HS4.out)
  have HS5 : Hid (sx ≤ w5.heap.size) := Lib.hid (Nat.le_trans HS4.out hb5.size)
  have HX5 := Lib.hid (HX4'.out.below hb5 HX4'.out.lt)
  have HY5 := Lib.hid (HY4.out.below hb5 HY4.out.lt)
  clear hb5 HO4' HB4' IM HX4' HY4
  have KS : Hid (∀ w', Below w5.heap.size w5 w' → w'.cell? ⟨sx, 0, none⟩ = some (.int .i64 N) ∧ w'.cell? ⟨sx, 1, none⟩ = some (.slice A4 Z.length c4) ∧ w'.cell? ⟨sx, 2, none⟩ = some (.slice (some ⟨g4, 0, none⟩) V.length d4) ∧ w'.cell? ⟨w.heap.size, 0, none⟩ = some (.int .i64 N) ∧ w'.cell? ⟨w.heap.size, 1, none⟩ = some (.slice ZA Z.length zc) ∧ w'.cell? ⟨w.heap.size, 2, none⟩ = some (.slice LA m lc)) := Lib.hid fun w' hW => by
    have hx := HX5.out.below hW HX5.out.lt
    have hy := HY5.out.below hW HY5.out.lt
    exact ⟨hy.cell 0, hy.cell 1, hy.cell 2, hx.cell 0, hx.cell 1, hx.cell 2⟩
  have inv : Below w5.heap.size w5 w5.drew := (Below.refl _ _).drew
  obtain ⟨z0, z1, z2, z3, z4, z5⟩ := KS.out _ inv
  have xl := HX5.out.lt
  have yl := HY5.out.lt
  go_wp2_with fail
  go_region_held3 (fun w' => w'.cell? ⟨sx, 0, none⟩ = some (.int .i64 N) ∧ w'.cell? ⟨sx, 1, none⟩ = some (.slice A4 Z.length c4) ∧ w'.cell? ⟨sx, 2, none⟩ = some (.slice (some ⟨g4, 0, none⟩) V.length d4) ∧ w'.cell? ⟨w.heap.size, 0, none⟩ = some (.int .i64 N) ∧ w'.cell? ⟨w.heap.size, 1, none⟩ = some (.slice ZA Z.length zc) ∧ w'.cell? ⟨w.heap.size, 2, none⟩ = some (.slice LA m lc)) (first | exact KS.out _ inv | (go_keep; done) | (refine ⟨?_, ?_, ?_, ?_, ?_, ?_⟩ <;> assumption)) (first | (go_at_call 19; (with_reducible refine Calls.mono (HTo.out _ (below_then HB5.out inv)) ?_); rintro e w6 ⟨v6, rfl, ho6, hb6⟩; obtain ⟨A6, c6, g6, d6, cs6, Q6, rfl, h6⟩ := ho6; have HO6 := Lib.hid (show WvO w6 _ w6.heap.size N Z V (.agg #[.int .i64 N, .slice A6 Z.length c6, .slice (some ⟨g6, 0, none⟩) V.length d6]) from ⟨A6, c6, g6, d6, cs6, Q6, rfl, h6⟩); replace inv := below_then inv hb6; have HO56 := Lib.hid (HO5.out.below inv HS5.out); clear h6 hb6; obtain ⟨y0, y1, y2, y3, y4, y5⟩ := KS.out _ inv) | (go_at_call 20; (with_reducible refine Calls.mono (eqWvO HNum.out Ht2.out HO56.out HO6.out) ?_); rintro e w7 ⟨rfl, hb7⟩; replace inv := below_then inv hb7; clear hb7; obtain ⟨y0, y1, y2, y3, y4, y5⟩ := KS.out _ inv))
  have HB7 := Lib.hid (below_then HB5.out inv)
  clear inv
  go_wp2
  go_ret
  exact ⟨rfl, HB7.out⟩

set_option maxHeartbeats 400000 in
theorem lawWaveSelect_big (N : Int) (ZA : Option Addr) (zc : Nat) (Z : List Int) (LA : Option Addr) (lc : Nat) (P : List LvA) (x k : Int) (w : World) (hL : LiesLw w LA P) (hz : Z.length ≤ 9223372036854775807) (hP : P.length ≤ 9223372036854775807) (hp : ∀ (k : Nat) (p : LvA), P[k]? = some p → p.L.length ≤ 9223372036854775807) (ht : 1048576 < Z.length + totL P) :
    Calls Tryd.prog 4 #[.agg #[.int .i64 N, .slice ZA Z.length zc, .slice LA P.length lc], .int .i64 x, .int .i64 k] w fun e w' => e = .returned (.bool true) ∧ Below w.heap.size w w' := by
  have HB0 : Hid (Below w.heap.size w (w.alloc (.cells #[.int .i64 N, .slice ZA Z.length zc, .slice LA P.length lc] 40))) := Lib.hid (by go_grown)
  have HSz := Lib.hid (szWave_any N ZA zc Z LA lc P _ (hL.below HB0.out) hz hP hp (fun n c A W hn => szInt_any n c A W hn))
  rw [show szL 1048576 (Z.length + totL P) = -1 by unfold szL; rw [if_neg (by omega)]] at HSz
  clear hL hz hP hp ht
  go_enter Tryd.func4, Tryd.ntmps4
  go_wp2_with fail
  refine HSz.out.mono ?_
  rintro e w1 ⟨rfl, hb1⟩
  have HB1 := Lib.hid (below_then HB0.out hb1)
  clear hb1
  go_wp2
  go_ret
  exact ⟨rfl, HB1.out⟩

end Go.Proofs.YtnlpmcgpdaifoaaDoor
