/- The law FnExactFramesRead walked. -/
import Derived.Test.YtlbnngolcoefdaaDoorFrsHeld
import Derived.Test.YtlbnngolcoefdaaDoorFrsRd2
namespace Go.Proofs.YtlbnngolcoefdaaDoor
open Go.RowKit
set_option maxRecDepth 100000

set_option maxHeartbeats 3200000 in
theorem lawFramesRead (A0 : Option Addr) (c0 : Nat) (D : List Nat) (b : Addr) (w : World) (hG : NoFrame w b) (hL : Lies w B8 A0 D) (hw : ∀ x ∈ D, x < 2 ^ 8) (hbig : D.length ≤ 1048576) :
    Calls Tryd.prog 9 #[.slice A0 D.length c0] w fun e w' => e = .returned (.bool true) ∧ Below w.heap.size w w' := by
  have HG := Lib.hid hG
  have HL := Lib.hid hL
  have HW := Lib.hid hw
  have HTo := Lib.hid fun W (h : Below w.heap.size w W) => toByte_new A0 c0 D W (HL.out.below h) (by omega)
  have SP := Lib.hid fun (W : World) A c (ho : W.ownsRow 0 5 1 (.slice A D.length c) D.length (D.map B8)) => specFramesRead_any A c D W (Lies.of_own ho) HW.out (row_cap ho).1 (row_cap ho).2 (by omega)
  have IM := Lib.hid fun (W : World) A c (h : Below w.heap.size w W) (ho : W.ownsRow 0 5 1 (.slice A D.length c) D.length (D.map B8)) => implFramesRead_any A c D b W (HG.out.below h) (Lies.of_own ho) HW.out (row_cap ho).1 (row_cap ho).2 (by omega)
  have HBy := Lib.hid (frsV_byte hw)
  have hN : (frsN D != frsN D) = false := by simp
  clear hG hL hw
  have hnd : decide ((1048576 : Int) < (D.length : Int)) = false := by simp; omega
  unfold RdsRes at SP IM
  generalize frsN D = N at *
  generalize frsV D = V at *
  obtain ⟨n, hn⟩ : ∃ n, D.length = n := ⟨_, rfl⟩
  have Hn := Lib.hid hn
  rw [hn] at HTo SP IM hbig hnd ⊢
  clear hn
  go_enter Tryd.func9, Tryd.ntmps9
  go_wp2_with fail
  refine (HTo.out _ (Below.refl _ _)).mono ?_
  rintro e w1 ⟨A1, c1, rfl, ho1, hb1⟩
  rw [Hn.out] at ho1 ⊢
  have HO1 := Lib.hid ho1
  have HB1 := Lib.hid hb1
  clear ho1 hb1 hnd
  go_wp2_with fail
  refine (SP.out _ A1 c1 (own_mono HO1.out (Nat.zero_le _))).mono ?_
  rintro e w2 ⟨v2, Q2, rfl, hf2, hm2, ht2, hb2⟩
  have HF2 := Lib.hid hf2.bound
  have HM2 := Lib.hid hm2
  have HT2 := Lib.hid ht2
  have HB2 := Lib.hid (below_then HB1.out hb2)
  have hs12 := hb2.size
  clear hf2 hm2 ht2 hb2 HO1
  go_wp2_with fail
  refine (HTo.out _ HB2.out).mono ?_
  rintro e w3 ⟨A3, c3, rfl, ho3, hb3⟩
  rw [Hn.out] at ho3 ⊢
  have HO3 := Lib.hid ho3
  have HX3 : Hid (∀ k, (Value.slice A3 n c3).ownBlock = some k → k < w3.heap.size) := Lib.hid fun k e => (ho3.lt k e).2
  have HF23 := Lib.hid (HF2.out.below hb3 (Nat.le_refl _))
  have HB3 := Lib.hid (below_then HB2.out hb3)
  have hs23 := hb3.size
  clear ho3 hb3 HF2
  go_wp2_with fail
  refine (IM.out _ A3 c3 HB3.out (own_mono HO3.out (Nat.zero_le _))).mono ?_
  rintro e w4 ⟨v4, Q4, rfl, hf4, hm4, ht4, hb4⟩
  have HF4 := Lib.hid hf4.bound
  have HM4 := Lib.hid hm4
  have HT4 := Lib.hid ht4
  have HF24 := Lib.hid (HF23.out.below hb4 hs23)
  have HO4 := Lib.hid (own_below HO3.out hb4 (Nat.le_refl _))
  have HB4 := Lib.hid (below_then HB3.out hb4)
  have hs34 := hb4.size
  have hVt : totP V ≤ 1048576 := by rw [← totV_val HM4.out]; have := HT4.out; omega
  clear hf4 hm4 ht4 hb4 HF23 HO3
  go_wp2_with fail
  refine (eqL HF4.out.list HF24.out.list HM4.out HM2.out HBy.out hVt).mono ?_
  rintro e w5 ⟨rfl, hb5⟩
  have HF5 := Lib.hid (HF4.out.below hb5 (Nat.le_refl _))
  have HF25 := Lib.hid (HF24.out.below hb5 (Nat.le_trans hs23 hs34))
  have HO5 := Lib.hid (own_below HO4.out hb5 (Nat.le_refl _))
  have HB5 := Lib.hid (below_then HB4.out hb5)
  have hs45 := hb5.size
  clear hb5 HF4 HF24 HO4
  go_wp2_with fail
  refine (HTo.out _ HB5.out).mono ?_
  rintro e w6 ⟨A6, c6, rfl, ho6, hb6⟩
  rw [Hn.out] at ho6 ⊢
  have HO6 := Lib.hid ho6
  have HF6 := Lib.hid (HF5.out.below hb6 hs45)
  have HF26 := Lib.hid (HF25.out.below hb6 (Nat.le_trans (Nat.le_trans hs23 hs34) hs45))
  have HO36 := Lib.hid (own_below HO5.out hb6 (Nat.le_refl _))
  have HB6 := Lib.hid (below_then HB5.out hb6)
  have hs56 := hb6.size
  clear ho6 hb6 HF5 HF25 HO5
  have heq := eqByte A3 A6 c3 c6 D D w6 (Lies.of_own HO36.out) (Lies.of_own HO6.out) (by rw [Hn.out]; omega)
  rw [Hn.out] at heq
  have HEq := Lib.hid heq
  clear heq
  go_wp2_with fail
  refine HEq.out.mono ?_
  rintro e w7 ⟨rfl, q7, rfl⟩
  simp only [decide_true]
  have HB7 : Hid (Below w.heap.size w (w6.drewN q7)) := Lib.hid (below_dN HB6.out q7)
  have HF7 : Hid (FrsB (w6.drewN q7) w3.heap.size w4.heap.size v4 Q4) := Lib.hid (HF6.out.turn fun _ _ _ => rfl)
  have HF27 : Hid (FrsB (w6.drewN q7) w1.heap.size w2.heap.size v2 Q2) := Lib.hid (HF26.out.turn fun _ _ _ => rfl)
  have HO7 : Hid ((w6.drewN q7).ownsRow w2.heap.size 5 1 (.slice A3 n c3) n (D.map B8)) := HO36
  have hs67 : w6.heap.size ≤ (w6.drewN q7).heap.size := Nat.le_refl _
  clear HB6 HF6 HF26 HO36 HO6 HEq
  generalize w6.drewN q7 = w7 at *
  go_wp2_with fail
  refine (markByte A3 n c3 w2.heap.size 1 _ w7 HO7.out (by omega) (by omega) (by omega)).mono ?_
  rintro e w8 ⟨rfl, ho8, hg8⟩
  have hi8 := inside_row (lo := w2.heap.size) (hi := w3.heap.size) HO7.out (Nat.le_refl _) HX3.out hg8
  have HF8 := Lib.hid (HF7.out.inside hi8 (by omega) (.inr (Nat.le_refl _)))
  have HF28 := Lib.hid (HF27.out.inside hi8 (by omega) (.inl (Nat.le_refl _)))
  have HB8 := Lib.hid (Inside.below HB7.out hi8 HB2.out.size HB7.out.size)
  have hs78 := hg8.size
  clear ho8 hg8 hi8 HF7 HF27 HO7 HB7
  have dk : decide ((1 : Int) + (n : Int) < 0) = false := by simp; omega
  go_wp2_with fail
  refine (eqL HF8.out.list HF28.out.list HM4.out HM2.out HBy.out hVt).mono ?_
  rintro e w9 ⟨rfl, hb9⟩
  have HF9 := Lib.hid (HF8.out.below hb9 (by omega))
  have HF29 := Lib.hid (HF28.out.below hb9 (by omega))
  have HB9 := Lib.hid (below_then HB8.out hb9)
  have hs89 := hb9.size
  clear hb9 HF8 HF28 HB8 dk
  go_wp2_with fail
  refine (markL HF9.out (by omega) (by have := HT4.out; omega)).mono ?_
  rintro e w10 ⟨rfl, hk10, hi10⟩
  have HK10 := Lib.hid hk10
  have HF210 := Lib.hid (HF29.out.inside hi10 (by omega) (.inl (by omega)))
  have HB10 := Lib.hid (Inside.below HB9.out hi10 HB3.out.size HB9.out.size)
  have hs910 := hi10.size
  clear hk10 hi10 HF9 HF29 HB9
  obtain ⟨tot, htot⟩ : ∃ tot, 1 + totV Q4 = tot := ⟨_, rfl⟩
  have HHe := Lib.hid fun W (h : FrsMk W w3.heap.size w4.heap.size v4 Q4) => heldL h (by have := HT4.out; omega)
  rw [htot] at HHe ⊢
  have dt : decide ((tot : Int) < 0) = false := by simp
  have dt2 : ((tot : Int) != (tot : Int)) = false := by simp
  clear htot
  go_wp2_with fail
  refine (HHe.out _ HK10.out).mono ?_
  rintro e w11 ⟨rfl, rfl⟩
  go_wp2_with fail
  refine (HTo.out _ HB10.out).mono ?_
  rintro e w12 ⟨A12, c12, rfl, ho12, hb12⟩
  rw [Hn.out] at ho12 ⊢
  have HO12 := Lib.hid ho12
  have HK12 := Lib.hid (HK10.out.below hb12 (by omega))
  have HF212 := Lib.hid (HF210.out.below hb12 (by omega))
  have HB12 := Lib.hid (below_then HB10.out hb12)
  have hs1012 := hb12.size
  clear ho12 hb12 HK10 HF210 HB10
  go_wp2_with fail
  refine (IM.out _ A12 c12 HB12.out (own_mono HO12.out (Nat.zero_le _))).mono ?_
  rintro e w13 ⟨v13, Q13, rfl, hf13, hm13, ht13, hb13⟩
  have HF13 := Lib.hid hf13
  have HM13 := Lib.hid hm13
  have HK13 := Lib.hid (HK12.out.below hb13 (by omega))
  have HF213 := Lib.hid (HF212.out.below hb13 (by omega))
  have HB13 := Lib.hid (below_then HB12.out hb13)
  have hs1213 := hb13.size
  clear hf13 hm13 ht13 hb13 HK12 HF212 HB12 HO12
  go_wp2_with fail
  refine (eqL HF13.out HF213.out.list HM13.out HM2.out HBy.out hVt).mono ?_
  rintro e w14 ⟨rfl, hb14⟩
  have HK14 := Lib.hid (HK13.out.below hb14 (by omega))
  have HB14 := Lib.hid (below_then HB13.out hb14)
  clear hb14 HK13 HB13 HF13 HF213
  go_wp2_with fail
  refine (HHe.out _ HK14.out).mono ?_
  rintro e w15 ⟨rfl, rfl⟩
  go_wp2
  go_ret
  exact ⟨rfl, HB14.out⟩

end Go.Proofs.YtlbnngolcoefdaaDoor
