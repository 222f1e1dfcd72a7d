/- The law FnExactWaveOf walked. -/
import Derived.Test.YtoehgcakfblblaaWvLaw3
import Derived.Test.YtoehgcakfblblaaWvOf6
import Derived.Test.YtoehgcakfblblaaInts2
namespace Go.Proofs.Ytoehgcakfblblaa
open Go.RowKit
set_option maxRecDepth 100000

theorem OutW.turn {w w' : World} {lo hi : Nat} {N : Int} {Z : List Int} {V : List (Int × List Nat)} {ok : Bool} {v : Value} (h : OutW w lo hi N Z V ok v) (hk : ∀ k, lo ≤ k → k < hi → w'.heap[k]? = w.heap[k]?) : OutW w' lo hi N Z V ok v := by
  rcases h with ⟨h1, ZA, zc, g, d, cs, Q, e1, ⟨h2, h3⟩, h4, h5⟩ | h
  · exact .inl ⟨h1, ZA, zc, g, d, cs, Q, e1, ⟨own_turn4 h2 fun k e => hk k (own_typed h2 e).1 (h3 k e), h3⟩, h4.turn hk, h5⟩
  · exact .inr h

set_option maxHeartbeats 3200000 in
theorem lawWaveOf (A0 : Option Addr) (c0 : Nat) (X : List Int) (w : World) (hL : Lies w I A0 X) (hbig : X.length ≤ 1048576) :
    Calls Try.prog 4 #[.slice A0 X.length c0] w fun e w' => e = .returned (.bool true) ∧ Below w.heap.size w w' := by
  have HL := Lib.hid hL
  have HTo := Lib.hid fun (W : World) (h : Below w.heap.size w W) => toIntI A0 c0 X W (HL.out.below h) (by omega)
  have SP := Lib.hid fun (W : World) (A : Option Addr) (c : Nat) (h : Lies W I A X) (t : Tidy A c) => (specWaveOf_any A c X W h t (by omega)).mono fun e w' h => h.out
  have IM := Lib.hid fun (W : World) (A : Option Addr) (c : Nat) (h : Lies W I A X) => (implWaveOf_any A c X W h (by omega)).mono fun e w' h => h.out
  have HN := Lib.hid fun (h : okW X = true) => (wvNum_levV h).1
  have HT := Lib.hid fun (h : okW X = true) => Nat.le_trans (wvNum_levV h).2 (show 1000 ≤ 1048000 by decide)
  clear hL HL
  generalize wzer X = Z at *
  generalize levV X = V at *
  generalize okW X = ok at *
  have EQ := Lib.hid fun (W : World) (lo hi lo' hi' : Nat) (v v' : Value) (h : OutW W lo hi X.length Z V ok v) (h' : OutW W lo' hi' X.length Z V ok v') => OutW.eq HN.out (fun e => Nat.le_trans (HT.out e) (by decide)) h h'
  have MK := Lib.hid fun (W : World) (lo hi : Nat) (v : Value) (h : OutW W lo hi X.length Z V ok v) (hhi : hi ≤ W.heap.size) (hlo : lo ≤ hi) => OutW.mark HT.out h hhi hlo
  clear HN HT
  have tok : (ok != ok) = false := by simp
  have HE := Lib.hid fun (W : World) (A B : Option Addr) (c d : Nat) (h : Lies W I A X) (h' : Lies W I B X) => eqInt A B c d X X W h h' (by omega)
  have hnd : decide ((1048576 : Int) < (X.length : Int)) = false := by simp; omega
  go_enter Try.func4, Try.ntmps4
  go_wp2_with fail
  refine (HTo.out _ (Below.refl _ _)).mono ?_
  rintro e w1 ⟨A1, c1, rfl, ho1, hb1⟩
  have HB1 := Lib.hid hb1
  have HO1 := Lib.hid (Lies.of_own ho1)
  have HT1 := Lib.hid (own_tidy ho1)
  clear hb1 ho1 hnd
  go_wp2_with fail
  refine (SP.out w1 _ _ HO1.out HT1.out).mono ?_
  rintro e w2 ⟨v, rfl, hv, hb2⟩
  obtain ⟨M3, A3, B3, n3, m3, c3, d3, rfl⟩ := hv.shape
  have HV3 := Lib.hid hv
  have HB2 := Lib.hid (below_then HB1.out hb2)
  have HS2 : Hid (w.heap.size ≤ w1.heap.size ∧ w1.heap.size ≤ w2.heap.size) := Lib.hid ⟨HB1.out.size, hb2.size⟩
  clear hv hb2 HO1 HT1 HB1
  have HX2 : Hid (Box (w2.alloc (.cells #[.int .i64 M3, .slice A3 n3 c3, .slice B3 m3 d3] 27)) w2.heap.size 27 #[.int .i64 M3, .slice A3 n3 c3, .slice B3 m3 d3]) := Lib.hid (Box.made _ _ _)
  have HB3 : Hid (Below w.heap.size w (w2.alloc (.cells #[.int .i64 M3, .slice A3 n3 c3, .slice B3 m3 d3] 27))) := Lib.hid (HB2.out.alloc HB2.out.size _)
  have HV3' : Hid (OutW (w2.alloc (.cells #[.int .i64 M3, .slice A3 n3 c3, .slice B3 m3 d3] 27)) w1.heap.size w2.heap.size X.length Z V ok (.agg #[.int .i64 M3, .slice A3 n3 c3, .slice B3 m3 d3])) := Lib.hid (HV3.out.below ((Below.refl _ _).alloc (Nat.le_refl _) _) (Nat.le_refl _))
  have HS3 : Hid (w2.heap.size < (w2.alloc (.cells #[.int .i64 M3, .slice A3 n3 c3, .slice B3 m3 d3] 27)).heap.size) := Lib.hid (by rw [World.size_alloc]; omega)
  go_wp2_with fail
  generalize w2.alloc (.cells #[.int .i64 M3, .slice A3 n3 c3, .slice B3 m3 d3] 27) = w3 at *
  clear HV3 HB2 SP
  obtain ⟨h3, hh3⟩ : ∃ h3, w2.heap.size = h3 := ⟨_, rfl⟩
  rw [hh3] at HX2 HV3' HS3 HS2
  rw [hh3]
  clear hh3
  obtain ⟨l3, hl3⟩ : ∃ l3, w1.heap.size = l3 := ⟨_, rfl⟩
  rw [hl3] at HV3' HS2
  clear hl3
  refine (HTo.out _ HB3.out).mono ?_
  rintro e w4 ⟨A5, c5, rfl, ho4, hb4⟩
  have HB4 := Lib.hid (below_then HB3.out hb4)
  have HX4 := Lib.hid (HX2.out.below hb4 HX2.out.lt)
  have HV4 := Lib.hid (HV3'.out.below hb4 (Nat.le_of_lt HS3.out))
  have HS4 : Hid (h3 < w4.heap.size) := Lib.hid (Nat.lt_of_lt_of_le HS3.out hb4.size)
  have HR4 := Lib.hid ho4
  have HS34 : Hid (h3 < w3.heap.size ∧ w3.heap.size ≤ w4.heap.size) := Lib.hid ⟨HS3.out, hb4.size⟩
  have HRK : Hid (∀ k, (Value.slice A5 X.length c5).ownBlock = some k → w3.heap.size ≤ k ∧ k < w4.heap.size) := Lib.hid fun k e => ho4.lt k e
  clear ho4 hb4 HB3 HX2 HV3' HS3
  go_wp2_with fail
  refine (IM.out w4 _ _ (Lies.of_own HR4.out)).mono ?_
  rintro e w5 ⟨v, rfl, hv, hb5⟩
  obtain ⟨M6, A6, B6, n6, m6, c6, d6, rfl⟩ := hv.shape
  have HV6 := Lib.hid hv
  have HB5 := Lib.hid (below_then HB4.out hb5)
  have HX5 := Lib.hid (HX4.out.below hb5 HX4.out.lt)
  have HV5 := Lib.hid (HV4.out.below hb5 (Nat.le_of_lt HS4.out))
  have HR5 := Lib.hid (own_below HR4.out hb5 (Nat.le_refl _))
  have HS5 : Hid (w4.heap.size ≤ w5.heap.size) := Lib.hid hb5.size
  clear hv hb5 HB4 HX4 HV4 HR4
  have HX6 : Hid (Box (w5.alloc (.cells #[.int .i64 M6, .slice A6 n6 c6, .slice B6 m6 d6] 27)) w5.heap.size 27 #[.int .i64 M6, .slice A6 n6 c6, .slice B6 m6 d6]) := Lib.hid (Box.made _ _ _)
  have HB6 : Hid (Below w.heap.size w (w5.alloc (.cells #[.int .i64 M6, .slice A6 n6 c6, .slice B6 m6 d6] 27))) := Lib.hid (HB5.out.alloc HB5.out.size _)
  have HV6' : Hid (OutW (w5.alloc (.cells #[.int .i64 M6, .slice A6 n6 c6, .slice B6 m6 d6] 27)) w4.heap.size w5.heap.size X.length Z V ok (.agg #[.int .i64 M6, .slice A6 n6 c6, .slice B6 m6 d6])) := Lib.hid (HV6.out.below ((Below.refl _ _).alloc (Nat.le_refl _) _) (Nat.le_refl _))
  have HV3' : Hid (OutW (w5.alloc (.cells #[.int .i64 M6, .slice A6 n6 c6, .slice B6 m6 d6] 27)) l3 h3 X.length Z V ok (.agg #[.int .i64 M3, .slice A3 n3 c3, .slice B3 m3 d3])) := Lib.hid (HV5.out.below ((Below.refl _ _).alloc (Nat.le_refl _) _) (Nat.le_trans (Nat.le_of_lt HS4.out) HS5.out))
  have HX3' : Hid (Box (w5.alloc (.cells #[.int .i64 M6, .slice A6 n6 c6, .slice B6 m6 d6] 27)) h3 27 #[.int .i64 M3, .slice A3 n3 c3, .slice B3 m3 d3]) := Lib.hid (HX5.out.alloc _)
  have HR6 : Hid ((w5.alloc (.cells #[.int .i64 M6, .slice A6 n6 c6, .slice B6 m6 d6] 27)).ownsRow w3.heap.size 3 1 (.slice A5 X.length c5) X.length (X.map I)) := Lib.hid (HR5.out.alloc _)
  have HS6 : Hid (w5.heap.size < (w5.alloc (.cells #[.int .i64 M6, .slice A6 n6 c6, .slice B6 m6 d6] 27)).heap.size) := Lib.hid (by rw [World.size_alloc]; omega)
  have y0 : (w5.alloc (.cells #[.int .i64 M6, .slice A6 n6 c6, .slice B6 m6 d6] 27)).cell? ⟨h3, 0, none⟩ = some (.int .i64 M3) := HX3'.out.cell 0
  have y1 : (w5.alloc (.cells #[.int .i64 M6, .slice A6 n6 c6, .slice B6 m6 d6] 27)).cell? ⟨h3, 1, none⟩ = some (.slice A3 n3 c3) := HX3'.out.cell 1
  have y2 : (w5.alloc (.cells #[.int .i64 M6, .slice A6 n6 c6, .slice B6 m6 d6] 27)).cell? ⟨h3, 2, none⟩ = some (.slice B3 m3 d3) := HX3'.out.cell 2
  have yl := HX3'.out.lt
  go_wp2_with fail
  clear y0 y1 y2 yl
  generalize w5.alloc (.cells #[.int .i64 M6, .slice A6 n6 c6, .slice B6 m6 d6] 27) = w6 at *
  clear HV6 HB5 HX5 HV5 HR5
  obtain ⟨h6, hh6⟩ : ∃ h6, w5.heap.size = h6 := ⟨_, rfl⟩
  rw [hh6] at HX6 HV6' HS6 HS5
  rw [hh6]
  clear hh6
  obtain ⟨l6, hl6⟩ : ∃ l6, w4.heap.size = l6 := ⟨_, rfl⟩
  rw [hl6] at HV6' HS5 HRK HS4 HS34
  clear hl6
  have ORD : Hid (w.heap.size ≤ l3 ∧ l3 ≤ h3 ∧ h3 < w3.heap.size ∧ w3.heap.size ≤ l6 ∧ l6 ≤ h6 ∧ h6 < w6.heap.size) := Lib.hid (by
    have h1 := HS2.out
    have h2 := HS34.out
    have h3 := HS5.out
    have h4 := HS6.out
    omega)
  obtain ⟨r5, hr5⟩ : ∃ r5, w3.heap.size = r5 := ⟨_, rfl⟩
  rw [hr5] at HR6 ORD HRK HS34
  clear hr5 HS4 HS34 HS5 HS6 HS2
  refine (EQ.out w6 _ _ _ _ _ _ HV6'.out HV3'.out).mono ?_
  rintro e w7 ⟨rfl, hb7⟩
  have HB7 := Lib.hid (below_then HB6.out hb7)
  have HX67 := Lib.hid (HX6.out.below hb7 HX6.out.lt)
  have HX37 := Lib.hid (HX3'.out.below hb7 HX3'.out.lt)
  have HV67 := Lib.hid (HV6'.out.below hb7 (Nat.le_of_lt HX6.out.lt))
  have HV37 := Lib.hid (HV3'.out.below hb7 (Nat.le_of_lt HX3'.out.lt))
  have HR7 := Lib.hid (own_below HR6.out hb7 (Nat.le_refl _))
  clear hb7 HB6 HX6 HX3' HV6' HV3' HR6
  go_wp2_with fail
  refine (HTo.out _ HB7.out).mono ?_
  rintro e w8 ⟨A8, c8, rfl, ho8, hb8⟩
  have HB8 := Lib.hid (below_then HB7.out hb8)
  have HX68 := Lib.hid (HX67.out.below hb8 HX67.out.lt)
  have HX38 := Lib.hid (HX37.out.below hb8 HX37.out.lt)
  have HV68 := Lib.hid (HV67.out.below hb8 (Nat.le_of_lt HX67.out.lt))
  have HV38 := Lib.hid (HV37.out.below hb8 (Nat.le_of_lt HX37.out.lt))
  have HR8 := Lib.hid (own_below HR7.out hb8 (Nat.le_refl _))
  have HO8 := Lib.hid (Lies.of_own ho8)
  clear ho8 hb8 HB7 HX67 HX37 HV67 HV37 HR7
  go_wp2_with fail
  refine (HE.out w8 _ _ _ _ (Lies.of_own HR8.out) HO8.out).mono ?_
  rintro e w9 ⟨rfl, q9, rfl⟩
  first | rw [decide_eq_true rfl] | simp only [decide_true]
  have hd9 := below_dN (Below.refl w8.heap.size w8) q9
  have HB9 := Lib.hid (below_then HB8.out hd9)
  have HX69 := Lib.hid (HX68.out.below hd9 HX68.out.lt)
  have HX39 := Lib.hid (HX38.out.below hd9 HX38.out.lt)
  have HV69 := Lib.hid (HV68.out.below hd9 (Nat.le_of_lt HX68.out.lt))
  have HV39 := Lib.hid (HV38.out.below hd9 (Nat.le_of_lt HX38.out.lt))
  have HR9 := Lib.hid (own_below HR8.out hd9 (Nat.le_refl _))
  clear hd9 HB8 HX68 HX38 HV68 HV38 HR8 HO8
  generalize w8.drewN q9 = w9 at *
  go_wp2_with fail
  refine (markInt A5 X.length c5 r5 1 _ w9 HR9.out (by omega) (by omega) (by omega)).mono ?_
  rintro e w10 ⟨rfl, ho10, hg10⟩
  have hne : ∀ k, l6 ≤ k → k < w9.heap.size → w10.heap[k]? = w9.heap[k]? := fun k h1 h2 => hg10.block k h2 fun e => by
    have := HRK.out k e.symm
    omega
  have hbel := grown_below HR9.out hg10 (Nat.le_refl _) (by have := ORD.out; have := HX69.out.lt; omega)
  have HB10 := Lib.hid (HB9.out.trans (grown_below HR9.out hg10 (by have := ORD.out; omega) HB9.out.size))
  have HX610 : Hid (Box w10 h6 27 #[.int .i64 M6, .slice A6 n6 c6, .slice B6 m6 d6]) := Lib.hid ((hne h6 (by have := ORD.out; omega) HX69.out.lt).trans HX69.out)
  have HX310 := Lib.hid (HX39.out.below hbel (by have := ORD.out; omega))
  have HV610 := Lib.hid (HV69.out.turn fun k h1 h2 => hne k h1 (Nat.lt_trans h2 HX69.out.lt))
  have HV310 := Lib.hid (HV39.out.below hbel (by have := ORD.out; omega))
  have dk : decide ((1 : Int) + (X.length : Int) < 0) = false := by simp; omega
  clear ho10 hg10 hne hbel HB9 HX69 HX39 HV69 HV39 HR9 HRK
  have x0 : w10.cell? ⟨h6, 0, none⟩ = some (.int .i64 M6) := HX610.out.cell 0
  have x1 : w10.cell? ⟨h6, 1, none⟩ = some (.slice A6 n6 c6) := HX610.out.cell 1
  have x2 : w10.cell? ⟨h6, 2, none⟩ = some (.slice B6 m6 d6) := HX610.out.cell 2
  have xl := HX610.out.lt
  have y0 : w10.cell? ⟨h3, 0, none⟩ = some (.int .i64 M3) := HX310.out.cell 0
  have y1 : w10.cell? ⟨h3, 1, none⟩ = some (.slice A3 n3 c3) := HX310.out.cell 1
  have y2 : w10.cell? ⟨h3, 2, none⟩ = some (.slice B3 m3 d3) := HX310.out.cell 2
  have yl := HX310.out.lt
  go_wp2_with fail
  clear x0 x1 x2 xl y0 y1 y2 yl dk
  refine (EQ.out w10 _ _ _ _ _ _ HV610.out HV310.out).mono ?_
  rintro e w11 ⟨rfl, hb11⟩
  have HB11 := Lib.hid (below_then HB10.out hb11)
  have HX611 := Lib.hid (HX610.out.below hb11 HX610.out.lt)
  have HX311 := Lib.hid (HX310.out.below hb11 HX310.out.lt)
  have HV611 := Lib.hid (HV610.out.below hb11 (Nat.le_of_lt HX610.out.lt))
  have HV311 := Lib.hid (HV310.out.below hb11 (Nat.le_of_lt HX310.out.lt))
  clear hb11 HB10 HX610 HX310 HV610 HV310
  have x0 : w11.cell? ⟨h6, 0, none⟩ = some (.int .i64 M6) := HX611.out.cell 0
  have x1 : w11.cell? ⟨h6, 1, none⟩ = some (.slice A6 n6 c6) := HX611.out.cell 1
  have x2 : w11.cell? ⟨h6, 2, none⟩ = some (.slice B6 m6 d6) := HX611.out.cell 2
  have xl := HX611.out.lt
  go_wp2_with fail
  clear x0 x1 x2 xl
  refine (MK.out w11 _ _ _ HV611.out (Nat.le_of_lt HX611.out.lt) (by have := ORD.out; omega)).mono ?_
  rintro e w12 ⟨r, hr, rfl, hm12, hi12⟩
  have HM12 := Lib.hid hm12
  have HX612 : Hid (Box w12 h6 27 #[.int .i64 M6, .slice A6 n6 c6, .slice B6 m6 d6]) := Lib.hid ((hi12.block _ HX611.out.lt (.inr (Nat.le_refl _))).trans HX611.out)
  have HX312 : Hid (Box w12 h3 27 #[.int .i64 M3, .slice A3 n3 c3, .slice B3 m3 d3]) := Lib.hid ((hi12.block _ HX311.out.lt (.inl (by have := ORD.out; omega))).trans HX311.out)
  have HV312 := Lib.hid (HV311.out.turn fun k h1 h2 => hi12.block k (Nat.lt_trans h2 HX311.out.lt) (.inl (by have := ORD.out; omega)))
  have HB12 := Lib.hid (InsideW.below HB11.out hi12 (by have := ORD.out; omega) HB11.out.size)
  have tr : ((r : Int) != (r : Int)) = false := by simp
  have dr : decide ((r : Int) < 0) = false := by simp
  clear hm12 hi12 HB11 HX611 HX311 HV611 HV311 hr
  have x0 : w12.cell? ⟨h6, 0, none⟩ = some (.int .i64 M6) := HX612.out.cell 0
  have x1 : w12.cell? ⟨h6, 1, none⟩ = some (.slice A6 n6 c6) := HX612.out.cell 1
  have x2 : w12.cell? ⟨h6, 2, none⟩ = some (.slice B6 m6 d6) := HX612.out.cell 2
  have xl := HX612.out.lt
  go_wp2_with fail
  clear x0 x1 x2 xl
  refine (HM12.out.held (Nat.le_of_lt HX612.out.lt)).mono ?_
  rintro e w13 ⟨rfl, hb13⟩
  have HB13 := Lib.hid (below_then HB12.out hb13)
  have HX613 := Lib.hid (HX612.out.below hb13 HX612.out.lt)
  have HX313 := Lib.hid (HX312.out.below hb13 HX312.out.lt)
  have HM13 := Lib.hid (HM12.out.below hb13 (Nat.le_of_lt HX612.out.lt))
  have HV313 := Lib.hid (HV312.out.below hb13 (Nat.le_of_lt HX312.out.lt))
  clear hb13 HB12 HX612 HX312 HM12 HV312
  go_wp2_with fail
  refine (HTo.out _ HB13.out).mono ?_
  rintro e w14 ⟨A14, c14, rfl, ho14, hb14⟩
  have HB14 := Lib.hid (below_then HB13.out hb14)
  have HX614 := Lib.hid (HX613.out.below hb14 HX613.out.lt)
  have HX314 := Lib.hid (HX313.out.below hb14 HX313.out.lt)
  have HM14 := Lib.hid (HM13.out.below hb14 (Nat.le_of_lt HX613.out.lt))
  have HV314 := Lib.hid (HV313.out.below hb14 (Nat.le_of_lt HX313.out.lt))
  have HO14 := Lib.hid (Lies.of_own ho14)
  clear ho14 hb14 HB13 HX613 HX313 HM13 HV313
  go_wp2_with fail
  refine (IM.out w14 _ _ HO14.out).mono ?_
  rintro e w15 ⟨v, rfl, hv, hb15⟩
  obtain ⟨M7, A7, B7, n7, m7, c7, d7, rfl⟩ := hv.shape
  have HV7 := Lib.hid hv
  have HB15 := Lib.hid (below_then HB14.out hb15)
  have HX615 := Lib.hid (HX614.out.below hb15 HX614.out.lt)
  have HX315 := Lib.hid (HX314.out.below hb15 HX314.out.lt)
  have HM15 := Lib.hid (HM14.out.below hb15 (Nat.le_of_lt HX614.out.lt))
  have HV315 := Lib.hid (HV314.out.below hb15 (Nat.le_of_lt HX314.out.lt))
  clear hv hb15 HB14 HX614 HX314 HM14 HV314 HO14
  have hal : Below w15.heap.size w15 (w15.alloc (.cells #[.int .i64 M7, .slice A7 n7 c7, .slice B7 m7 d7] 27)) := (Below.refl _ _).alloc (Nat.le_refl _) _
  have HX7 : Hid (Box (w15.alloc (.cells #[.int .i64 M7, .slice A7 n7 c7, .slice B7 m7 d7] 27)) w15.heap.size 27 #[.int .i64 M7, .slice A7 n7 c7, .slice B7 m7 d7]) := Lib.hid (Box.made _ _ _)
  have HB16 := Lib.hid (below_then HB15.out hal)
  have HX616 := Lib.hid (HX615.out.below hal HX615.out.lt)
  have HX316 := Lib.hid (HX315.out.below hal HX315.out.lt)
  have HM16 := Lib.hid (HM15.out.below hal (Nat.le_of_lt HX615.out.lt))
  have HV316 := Lib.hid (HV315.out.below hal (Nat.le_of_lt HX315.out.lt))
  have HV7' := Lib.hid (HV7.out.below hal (Nat.le_refl _))
  clear hal
  have y0 : (w15.alloc (.cells #[.int .i64 M7, .slice A7 n7 c7, .slice B7 m7 d7] 27)).cell? ⟨h3, 0, none⟩ = some (.int .i64 M3) := HX316.out.cell 0
  have y1 : (w15.alloc (.cells #[.int .i64 M7, .slice A7 n7 c7, .slice B7 m7 d7] 27)).cell? ⟨h3, 1, none⟩ = some (.slice A3 n3 c3) := HX316.out.cell 1
  have y2 : (w15.alloc (.cells #[.int .i64 M7, .slice A7 n7 c7, .slice B7 m7 d7] 27)).cell? ⟨h3, 2, none⟩ = some (.slice B3 m3 d3) := HX316.out.cell 2
  have yl := HX316.out.lt
  go_wp2_with fail
  clear y0 y1 y2 yl
  generalize w15.alloc (.cells #[.int .i64 M7, .slice A7 n7 c7, .slice B7 m7 d7] 27) = w16 at *
  clear HV7 HB15 HX615 HX315 HM15 HV315
  obtain ⟨h7, hh7⟩ : ∃ h7, w15.heap.size = h7 := ⟨_, rfl⟩
  rw [hh7] at HX7 HV7'
  rw [hh7]
  clear hh7
  refine (EQ.out w16 _ _ _ _ _ _ HV7'.out HV316.out).mono ?_
  rintro e w17 ⟨rfl, hb17⟩
  have HB17 := Lib.hid (below_then HB16.out hb17)
  have HX617 := Lib.hid (HX616.out.below hb17 HX616.out.lt)
  have HM17 := Lib.hid (HM16.out.below hb17 (Nat.le_of_lt HX616.out.lt))
  clear hb17 HB16 HX616 HX316 HM16 HV316 HV7' HX7
  have x0 : w17.cell? ⟨h6, 0, none⟩ = some (.int .i64 M6) := HX617.out.cell 0
  have x1 : w17.cell? ⟨h6, 1, none⟩ = some (.slice A6 n6 c6) := HX617.out.cell 1
  have x2 : w17.cell? ⟨h6, 2, none⟩ = some (.slice B6 m6 d6) := HX617.out.cell 2
  have xl := HX617.out.lt
  go_wp2_with fail
  clear x0 x1 x2 xl
  refine (HM17.out.held (Nat.le_of_lt HX617.out.lt)).mono ?_
  rintro e w18 ⟨rfl, hb18⟩
  have HB18 := Lib.hid (below_then HB17.out hb18)
  clear hb18 HB17 HX617 HM17
  go_wp2
  go_ret
  exact ⟨rfl, HB18.out⟩

end Go.Proofs.Ytoehgcakfblblaa
