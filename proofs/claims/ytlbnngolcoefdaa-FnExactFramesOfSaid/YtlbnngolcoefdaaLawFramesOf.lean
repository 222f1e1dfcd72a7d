/- The law FnExactFramesOf walked. -/
import Derived.Test.YtlbnngolcoefdaaFrs6
namespace Go.Proofs.Ytlbnngolcoefdaa
open Go.RowKit
set_option maxRecDepth 100000

theorem foF_bound (V : List (Int × List Nat)) : ((foF [] V).getD []).length ≤ 8000 := by
  cases h : foF [] V with
  | none => simp
  | some D => exact foF_len V [] D h (by simp)

set_option maxHeartbeats 3200000 in
theorem lawFramesOf (A0 : Option Addr) (c0 : Nat) (P : List FrA) (w : World) (hL : LiesG w A0 P) (ht : totP (P.map FrA.val) ≤ 1048576) (hlen : P.length ≤ 1048576) (hp : ∀ (k : Nat) (p : FrA), P[k]? = some p → p.L.length ≤ 9223372036854775807) :
    Calls Try.prog 7 #[.slice A0 P.length c0] w fun e w' => e = .returned (.bool true) ∧ Below w.heap.size w w' := by
  have hby : ∀ v ∈ P.map FrA.val, ∀ x ∈ v.2, x < 2 ^ 8 := by
    intro v hv
    obtain ⟨p, hp1, rfl⟩ := List.mem_map.1 hv
    obtain ⟨j, hj⟩ := List.mem_iff_getElem?.1 hp1
    exact (hL j p hj).2.2.2
  have HL := Lib.hid hL
  have HSz := Lib.hid (szFrames_any A0 c0 P w hL (by omega) hp)
  have hsz : szV (totF P) = 1048576 - (totF P : Int) := by
    unfold szV
    rw [if_pos (by rw [totF_val]; exact ht)]
  rw [hsz] at HSz
  have htf : totF P ≤ 1048576 := by rw [totF_val]; exact ht
  have HTo := Lib.hid fun W (h : Below w.heap.size w W) => toFrs A0 c0 P W (HL.out.below h) ht
  clear hL hp hsz
  generalize P.map FrA.val = V at *
  have hRl := foF_bound V
  have HBy := Lib.hid hby
  clear hby HL
  obtain ⟨n, hn⟩ : ∃ n, P.length = n := ⟨_, rfl⟩
  rw [hn] at HSz HTo hlen ⊢
  obtain ⟨tot, htot⟩ : ∃ tot, totF P = tot := ⟨_, rfl⟩
  rw [htot] at HSz htf
  clear hn htot
  have nz : decide (1048576 - (tot : Int) < 0) = false := by simp; omega
  have nz2 : ¬ (1048576 - (tot : Int) < 0) := by omega
  have SP := Lib.hid fun lo hi g d W h => specFrs lo hi g d V W h HBy.out ht
  have IM := Lib.hid fun lo hi g d W h => implFrs lo hi g d V W h HBy.out ht
  have EQ := Lib.hid fun lo hi g d W h => eqFrs lo hi g d V W h HBy.out ht
  have MK := Lib.hid fun lo hi g d W h => markFrs lo hi g d V W h ht
  obtain ⟨R, hR⟩ : ∃ R, (foF [] V).getD [] = R := ⟨_, rfl⟩
  obtain ⟨b, hb0⟩ : ∃ b, (foF [] V).isSome = b := ⟨_, rfl⟩
  have HRes : Hid (∀ (W : World) e W', OfRes W (foF [] V) e W' → ∃ A c, e = .returned (.tuple #[.slice A R.length c, .bool b]) ∧ W'.ownsRow W.heap.size 5 1 (.slice A R.length c) R.length (R.map B8) ∧ Below W.heap.size W W') := Lib.hid fun W e W' h => by rw [← hR, ← hb0]; exact h
  rw [hR] at hRl
  clear hR hb0
  have tb : (b != b) = false := by simp
  go_enter Try.func7, Try.ntmps7
  go_wp2_with fail
  refine HSz.out.mono ?_
  rintro e w1 ⟨rfl, hb1⟩
  have HB1 := Lib.hid hb1
  clear hb1 HSz
  go_wp2_with fail
  refine (HTo.out _ HB1.out).mono ?_
  rintro e w2 ⟨g2, d2, rfl, hf2, hb2⟩
  have HB2 := Lib.hid (below_then HB1.out hb2)
  have HF2 := Lib.hid hf2
  clear hf2 hb2 HB1 nz nz2
  go_wp2_with fail
  refine (SP.out _ _ g2 d2 w2 HF2.out).mono ?_
  intro e w3 he3
  obtain ⟨A3, c3, rfl, ho3, hb3⟩ := HRes.out _ _ _ he3
  have HO3 := Lib.hid ho3
  have HX3 : Hid (∀ k, (Value.slice A3 R.length c3).ownBlock = some k → k < w3.heap.size) := Lib.hid fun k e => (ho3.lt k e).2
  have HB3 := Lib.hid (below_then HB2.out hb3)
  clear he3 ho3 hb3 HF2 HB2
  go_wp2_with fail
  refine (HTo.out _ HB3.out).mono ?_
  rintro e w4 ⟨g4, d4, rfl, hf4, hb4⟩
  have HO34 := Lib.hid (own_below HO3.out hb4 (Nat.le_refl _))
  have HB4 := Lib.hid (below_then HB3.out hb4)
  have hs34 := hb4.size
  have HF4 := Lib.hid hf4
  clear hf4 hb4
  go_wp2_with fail
  refine (IM.out _ _ g4 d4 w4 HF4.out).mono ?_
  intro e w5 he5
  obtain ⟨A5, c5, rfl, ho5, hb5⟩ := HRes.out _ _ _ he5
  have HO5 := Lib.hid ho5
  have HO35 := Lib.hid (own_below HO34.out hb5 (Nat.le_refl _))
  have HF5 := Lib.hid (HF4.out.below hb5 (Nat.le_refl _))
  have HB5 := Lib.hid (below_then HB4.out hb5)
  have hs45 := hb5.size
  clear he5 ho5 hb5 HO34 HF4 HO3
  go_wp2_with fail
  refine (eqByte _ _ _ _ R R _ (Lies.of_own HO5.out) (Lies.of_own HO35.out) (by omega)).mono ?_
  rintro e w6 ⟨rfl, q6, rfl⟩
  rw [decide_eq_true rfl]
  have HB6 : Hid (Below w.heap.size w (w5.drewN q6)) := Lib.hid (below_dN HB5.out q6)
  have HF6 : Hid (Frs (w5.drewN q6) w3.heap.size w4.heap.size g4 V) := Lib.hid (HF5.out.below (below_dN (Below.refl w5.heap.size w5) q6) hs45)
  have HO36 : Hid ((w5.drewN q6).ownsRow w2.heap.size 5 1 (.slice A3 R.length c3) R.length (R.map B8)) := HO35
  have HO6 : Hid ((w5.drewN q6).ownsRow w4.heap.size 5 1 (.slice A5 R.length c5) R.length (R.map B8)) := HO5
  have hs56 : w4.heap.size ≤ (w5.drewN q6).heap.size := hs45
  clear HB5 HF5 HO35 HO5
  generalize w5.drewN q6 = w6 at *
  go_wp2_with fail
  refine (HTo.out _ HB6.out).mono ?_
  rintro e w7 ⟨g7, d7, rfl, hf7, hb7⟩
  have HB7 := Lib.hid (below_then HB6.out hb7)
  have HF7 := Lib.hid hf7
  have HF67 := Lib.hid (HF6.out.below hb7 hs56)
  have HO37 := Lib.hid (own_below HO36.out hb7 (Nat.le_refl _))
  have HO7 := Lib.hid (own_below HO6.out hb7 (Nat.le_refl _))
  have hs67 := hb7.size
  clear hf7 hb7 HB6 HF6 HO36 HO6
  go_wp2_with fail
  refine (EQ.out _ _ g4 d4 w7 HF67.out _ _ g7 d7 HF7.out).mono ?_
  rintro e w8 ⟨rfl, hb8⟩
  have HB8 := Lib.hid (below_then HB7.out hb8)
  have HF8 := Lib.hid (HF67.out.below hb8 (Nat.le_trans hs56 hs67))
  have HO38 := Lib.hid (own_below HO37.out hb8 (Nat.le_refl _))
  have HO8 := Lib.hid (own_below HO7.out hb8 (Nat.le_refl _))
  have hs78 := hb8.size
  clear hb8 HB7 HF7 HF67 HO37 HO7
  go_wp2_with fail
  refine (MK.out _ _ g4 d4 w8 HF8.out (Nat.le_trans (Nat.le_trans hs56 hs67) hs78)).mono ?_
  rintro e w9 ⟨⟨r9, rfl⟩, hi9⟩
  have HO39 := Lib.hid (own_inside HO38.out hi9 fun k e => .inl (HX3.out k e))
  have HO9 := Lib.hid (own_inside HO8.out hi9 fun k e => .inr (HO8.out.lt k e).1)
  have HB9 := Lib.hid (Inside.below HB8.out hi9 HB3.out.size HB8.out.size)
  clear hi9 HB8 HF8 HO38 HO8
  have t9 : decide ((r9 : Int) < 0) = false := by simp
  go_wp2_with fail
  refine (eqByte _ _ _ _ R R _ (Lies.of_own HO9.out) (Lies.of_own HO39.out) (by omega)).mono ?_
  rintro e w10 ⟨rfl, q10, rfl⟩
  rw [decide_eq_true rfl]
  have HB10 : Hid (Below w.heap.size w (w9.drewN q10)) := Lib.hid (below_dN HB9.out q10)
  have HO310 : Hid ((w9.drewN q10).ownsRow w2.heap.size 5 1 (.slice A3 R.length c3) R.length (R.map B8)) := HO39
  have HO10 : Hid ((w9.drewN q10).ownsRow w4.heap.size 5 1 (.slice A5 R.length c5) R.length (R.map B8)) := HO9
  clear HB9 HO39 HO9
  generalize w9.drewN q10 = w10 at *
  go_wp2_with fail
  refine (markByte A5 R.length c5 w4.heap.size 1 _ w10 HO10.out (by omega) (by omega) (by omega)).mono ?_
  rintro e w11 ⟨rfl, ho11, hg11⟩
  have HO11 := Lib.hid ho11
  have HO311 := Lib.hid (own_apart8 HO310.out hg11 fun k e e2 => by
    have h1 := HX3.out k e
    have h2 := (HO10.out.lt k e2).1
    omega)
  have HB11 := Lib.hid (HB10.out.trans (grown_below HO10.out hg11 HB4.out.size HB10.out.size))
  clear ho11 hg11 HB10 HO310 HO10
  go_wp2_with fail
  refine (heldByte A5 R.length c5 1 w11 (lies_marks HO11.out) (by omega) (by omega) (by omega)).mono ?_
  rintro e w12 ⟨rfl, rfl⟩
  have dq : decide ((1 : Int) + (R.length : Int) < 0) = false := by simp; omega
  have dq2 : ¬ ((1 : Int) + (R.length : Int) < 0) := by omega
  go_wp2_with fail
  refine (HTo.out _ HB11.out).mono ?_
  rintro e w13 ⟨g13, d13, rfl, hf13, hb13⟩
  have HB13 := Lib.hid (below_then HB11.out hb13)
  have HF13 := Lib.hid hf13
  have HO13 := Lib.hid (own_below HO11.out hb13 (Nat.le_refl _))
  have HO313 := Lib.hid (own_below HO311.out hb13 (Nat.le_refl _))
  clear hf13 hb13 HB11 HO11 HO311
  go_wp2_with fail
  refine (IM.out _ _ g13 d13 w13 HF13.out).mono ?_
  intro e w14 he14
  obtain ⟨A14, c14, rfl, ho14, hb14⟩ := HRes.out _ _ _ he14
  have HB14 := Lib.hid (below_then HB13.out hb14)
  have HO14 := Lib.hid ho14
  have HO1314 := Lib.hid (own_below HO13.out hb14 (Nat.le_refl _))
  have HO314 := Lib.hid (own_below HO313.out hb14 (Nat.le_refl _))
  clear he14 ho14 hb14 HB13 HO13 HO313 HF13
  go_wp2_with fail
  refine (eqByte _ _ _ _ R R _ (Lies.of_own HO14.out) (Lies.of_own HO314.out) (by omega)).mono ?_
  rintro e w15 ⟨rfl, q15, rfl⟩
  rw [decide_eq_true rfl]
  have HB15 : Hid (Below w.heap.size w (w14.drewN q15)) := Lib.hid (below_dN HB14.out q15)
  have HO15 : Hid ((w14.drewN q15).ownsRow w4.heap.size 5 1 (.slice A5 R.length c5) R.length ((List.range R.length).map fun (j : Nat) => mk8 (1 + j))) := HO1314
  clear HB14 HO1314 HO314 HO14
  generalize w14.drewN q15 = w15 at *
  go_wp2_with fail
  refine (heldByte A5 R.length c5 1 w15 (lies_marks HO15.out) (by omega) (by omega) (by omega)).mono ?_
  rintro e w16 ⟨rfl, rfl⟩
  go_wp2
  go_ret
  exact ⟨rfl, HB15.out⟩

end Go.Proofs.Ytlbnngolcoefdaa
