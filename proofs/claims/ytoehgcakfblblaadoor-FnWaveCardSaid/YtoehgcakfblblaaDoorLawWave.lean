/- The law FnWave walked. -/
import Derived.Test.YtoehgcakfblblaaDoorWvApp
import Derived.Test.YtoehgcakfblblaaDoorWvX
import Derived.Test.YtoehgcakfblblaaDoorWvOf6
import Derived.Test.YtoehgcakfblblaaDoorWv7
import Derived.Test.YtoehgcakfblblaaDoorWv13
import Derived.Test.YtoehgcakfblblaaDoorWvLaw2
import Derived.Test.YtoehgcakfblblaaDoorCntL
import Derived.Test.YtoehgcakfblblaaDoorWvQ
import Derived.Deep.RegionHeld3
namespace Go.Proofs.YtoehgcakfblblaaDoor
open Go.RowKit
set_option maxRecDepth 100000

theorem wvX_sel {X : List Int} (h : okW X = true) {x : Int} {i : Nat} (hx : X[i]? = some x) : wSel X.length (wzer X) (levV X) x ((X.take i).count x : Nat) = i := by
  rw [wSel, if_pos (wvX_ok h), wvX_B h]
  exact selL_some X x i hx
theorem wvNum_X {X : List Int} (h : okW X = true) : WvNum (wzer X) (levV X) := by
  have hx := (okW_iff X).1 h
  have hl : (levV X).length = 9 := by rw [levV, List.length_map, wlev_len]
  have hz := wzer_len X
  refine ⟨?_, ?_, by omega, by omega⟩
  · intro z hz2
    rw [wzer] at hz2
    obtain ⟨k, hk, rfl⟩ := List.mem_map.1 hz2
    have h1 := low_high (8 - k) (wX X k)
    rw [wX_len] at h1
    omega
  · intro v hv
    rw [levV] at hv
    obtain ⟨L, hL, rfl⟩ := List.mem_map.1 hv
    rw [wlev] at hL
    obtain ⟨k, hk, rfl⟩ := List.mem_map.1 hL
    exact wordsOf_lt _ (wrow_bits X k)

set_option maxHeartbeats 400000 in
theorem lawWave_big (A : Option Addr) (n c : Nat) (w : World) (h : 1048576 < n) :
    Calls Tryd.prog 3 #[.slice A n c] w fun e w' => e = .returned (.bool true) ∧ Below w.heap.size w w' := by
  have C := Lib.hid (big_any A n c w)
  rw [decide_eq_true h] at C
  go_enter Tryd.func3, Tryd.ntmps3
  go_wp2_with fail
  refine C.out.mono ?_
  rintro e w1 ⟨rfl, rfl⟩
  go_wp2
  go_ret
  exact ⟨rfl, Below.refl _ _⟩

set_option maxHeartbeats 3200000 in
theorem lawWave (A : Option Addr) (c : Nat) (D : List Nat) (w : World) (hD : Lies w B8 A D) (hw : ∀ x ∈ D, x < 2 ^ 8) (hl : D.length ≤ 1048576) (hT : Tab w) :
    Calls Tryd.prog 3 #[.slice A D.length c] w fun e w' => e = .returned (.bool true) ∧ Below w.heap.size w w' := by
  have C := Lib.hid (big_any A D.length c w)
  rw [decide_eq_false (by omega)] at C
  have HD := Lib.hid hD
  have HW := Lib.hid hw
  have HT := Lib.hid hT
  clear hD hw hT
  go_enter Tryd.func3, Tryd.ntmps3
  go_wp2_with fail
  refine C.out.mono ?_
  rintro e w0 ⟨rfl, rfl⟩
  go_wp2_with fail
  refine (drawWave_any A c D w HD.out HW.out hl).mono ?_
  rintro e w1 ⟨A1, c1, X, rfl, ho1, hX5, hb1⟩
  have HB1 := Lib.hid hb1
  have HO1 := Lib.hid ho1
  clear hb1 ho1 C
  go_wp2_with fail
  refine (specWaveOf_any A1 c1 X w1 (Lies.of_own HO1.out) (own_tidy HO1.out) (by omega)).mono ?_
  rintro e w2 h2
  have hpost : ∃ v, e = .returned (.tuple #[v, .bool (okW X)]) ∧ (∃ (M : Int) (A A' : Option Addr) (n n' c c' : Nat), v = .agg #[.int .i64 M, .slice A n c, .slice A' n' c']) ∧ Below w1.heap.size w1 w2 := by
    rcases h2 with ⟨h3, v, h4, h5, h6⟩ | ⟨h3, h4, h5⟩
    · obtain ⟨ZA, zc, g, d, cs, Q, rfl, _⟩ := h5
      exact ⟨_, by rw [h3]; exact h4, ⟨_, _, _, _, _, _, _, rfl⟩, h6⟩
    · exact ⟨_, by rw [h3]; exact h4, ⟨_, _, _, _, _, _, _, rfl⟩, h5⟩
  clear h2
  obtain ⟨v2, rfl, ⟨M2, A2, B2, n2, m2, c2, d2, rfl⟩, hb2⟩ := hpost
  have HB2 := Lib.hid (below_then HB1.out hb2)
  have HO2 := Lib.hid (own_below HO1.out hb2 (Nat.le_refl _))
  clear hb2 HB1 HO1
  have hal : Below w2.heap.size w2 (w2.alloc (.cells #[.int .i64 M2, .slice A2 n2 c2, .slice B2 m2 d2] 28)) := (Below.refl _ _).alloc (Nat.le_refl _) _
  have HB3 := Lib.hid (below_then HB2.out hal)
  have HO3 := Lib.hid (own_below HO2.out hal (Nat.le_refl _))
  clear hal HB2 HO2
  go_wp2_with fail
  generalize w2.alloc (.cells #[.int .i64 M2, .slice A2 n2 c2, .slice B2 m2 d2] 28) = w3 at *
  refine (implWaveOf_any A1 c1 X w3 (Lies.of_own HO3.out) (by omega)).mono ?_
  rintro e w4 (⟨hok, v4, rfl, hv4, hb4⟩ | ⟨hok, rfl, hb4⟩)
  · obtain ⟨a, ha1, ha2, ha3, ha4, ha5⟩ := hv4.wave (wvNum_X hok)
    obtain ⟨N4, ZA4, zc4, Z4, LA4, lc4, P4⟩ := a
    simp only at ha3 ha4 ha5
    subst ha3 ha4
    subst ha1
    have HL4 := Lib.hid ha2
    have HP := Lib.hid ha5
    have HOk := Lib.hid hok
    have HB4 := Lib.hid (below_then HB3.out hb4)
    have HO4 := Lib.hid (own_below HO3.out hb4 (Nat.le_refl _))
    rw [hok]
    have CLi := Lib.hid fun (W : World) (hW : LiesWa W ⟨(X.length : Int), ZA4, zc4, wzer X, LA4, lc4, P4⟩) => implWaveList_any ⟨(X.length : Int), ZA4, zc4, wzer X, LA4, lc4, P4⟩ W hW
    have COk := Lib.hid fun (W : World) (hW : LiesWa W ⟨(X.length : Int), ZA4, zc4, wzer X, LA4, lc4, P4⟩) => implWaveOk_any ⟨(X.length : Int), ZA4, zc4, wzer X, LA4, lc4, P4⟩ W hW
    have CAt := Lib.hid fun (W : World) (i : Int) (hW : LiesWa W ⟨(X.length : Int), ZA4, zc4, wzer X, LA4, lc4, P4⟩) => implWaveAt_any ⟨(X.length : Int), ZA4, zc4, wzer X, LA4, lc4, P4⟩ i W hW
    have CRk := Lib.hid fun (W : World) (x i : Int) (hW : LiesWa W ⟨(X.length : Int), ZA4, zc4, wzer X, LA4, lc4, P4⟩) => implWaveRank_any ⟨(X.length : Int), ZA4, zc4, wzer X, LA4, lc4, P4⟩ x i W hW
    have CSe := Lib.hid fun (W : World) (x i : Int) (hW : LiesWa W ⟨(X.length : Int), ZA4, zc4, wzer X, LA4, lc4, P4⟩) (hT : Tab W) => implWaveSelect_any ⟨(X.length : Int), ZA4, zc4, wzer X, LA4, lc4, P4⟩ x i W hW hT
    simp only [WaA.ok, WaA.value, HP.out] at CLi COk CAt CRk CSe
    rw [wvX_ok hok] at COk
    rw [wvX_list hok] at CLi
    unfold WaA.value
    simp only
    clear hv4 ha2 ha5 hb4 HB3 HO3 hok
    have hal : Below w4.heap.size w4 (w4.alloc (.cells #[.int .i64 (X.length : Int), .slice ZA4 (wzer X).length zc4, .slice LA4 P4.length lc4] 28)) := (Below.refl _ _).alloc (Nat.le_refl _) _
    have HX5 : Hid (Box (w4.alloc (.cells #[.int .i64 (X.length : Int), .slice ZA4 (wzer X).length zc4, .slice LA4 P4.length lc4] 28)) w4.heap.size 28 #[.int .i64 (X.length : Int), .slice ZA4 (wzer X).length zc4, .slice LA4 P4.length lc4]) := Lib.hid (Box.made _ _ _)
    have HB5 := Lib.hid (below_then HB4.out hal)
    have HL5 := Lib.hid (HL4.out.below hal)
    have HO5 := Lib.hid (own_below HO4.out hal (Nat.le_refl _))
    clear hal HB4 HL4 HO4
    go_wp2_with fail
    generalize w4.alloc (.cells #[.int .i64 (X.length : Int), .slice ZA4 (wzer X).length zc4, .slice LA4 P4.length lc4] 28) = w5 at *
    obtain ⟨b5, hb5⟩ : ∃ b5, w4.heap.size = b5 := ⟨_, rfl⟩
    rw [hb5] at HX5
    rw [hb5]
    clear hb5
    refine (CLi.out w5 HL5.out).mono ?_
    rintro e w6 ⟨A6, c6, rfl, ho6, hb6⟩
    have HR6 := Lib.hid (Lies.of_own ho6)
    clear ho6
    have HB6 := Lib.hid (below_then HB5.out hb6)
    have HX6 := Lib.hid (HX5.out.below hb6 HX5.out.lt)
    have HL6 := Lib.hid (HL5.out.below hb6)
    have HO6 := Lib.hid (own_below HO5.out hb6 (Nat.le_refl _))
    clear hb6 HB5 HX5 HL5 HO5
    go_wp2_with fail
    refine (sameInt A6 A1 c6 c1 X X w6 HR6.out (Lies.of_own HO6.out) (by omega)).mono ?_
    rintro e w7 ⟨rfl, q7, rfl⟩
    first | rw [decide_eq_true rfl] | simp only [decide_true]
    have hd7 := below_dN (Below.refl w6.heap.size w6) q7
    have HB7 := Lib.hid (below_then HB6.out hd7)
    have HX7 := Lib.hid (HX6.out.below hd7 HX6.out.lt)
    have HL7 := Lib.hid (HL6.out.below hd7)
    have HO7 := Lib.hid (own_below HO6.out hd7 (Nat.le_refl _))
    clear hd7 HB6 HX6 HL6 HO6
    clear HR6
    generalize w6.drewN q7 = w7 at *
    have x0 : w7.cell? ⟨b5, 0, none⟩ = some (.int .i64 (X.length : Int)) := HX7.out.cell 0
    have x1 : w7.cell? ⟨b5, 1, none⟩ = some (.slice ZA4 (wzer X).length zc4) := HX7.out.cell 1
    have x2 : w7.cell? ⟨b5, 2, none⟩ = some (.slice LA4 P4.length lc4) := HX7.out.cell 2
    have xl := HX7.out.lt
    go_wp2_with fail
    clear x0 x1 x2 xl
    refine (COk.out w7 HL7.out).mono ?_
    rintro e w8 ⟨rfl, hb8⟩
    have HB8 := Lib.hid (below_then HB7.out hb8)
    have HX8 := Lib.hid (HX7.out.below hb8 HX7.out.lt)
    have HL8 := Lib.hid (HL7.out.below hb8)
    have HO8 := Lib.hid (own_below HO7.out hb8 (Nat.le_refl _))
    clear hb8 HB7 HX7 HL7 HO7
    clear CLi COk
    by_cases h0 : X.length = 0
    · have t0 : ((X.length : Int) == 0) = true := by rw [beq_iff_eq]; omega
      have hC0 := CAt.out w8 0 HL8.out
      rw [wvX_none h0] at hC0
      have CA0 := Lib.hid hC0
      have x0 : w8.cell? ⟨b5, 0, none⟩ = some (.int .i64 (X.length : Int)) := HX8.out.cell 0
      have x1 : w8.cell? ⟨b5, 1, none⟩ = some (.slice ZA4 (wzer X).length zc4) := HX8.out.cell 1
      have x2 : w8.cell? ⟨b5, 2, none⟩ = some (.slice LA4 P4.length lc4) := HX8.out.cell 2
      have xl := HX8.out.lt
      clear hC0 h0
      go_wp2_with fail
      refine CA0.out.mono ?_
      rintro e w9 ⟨rfl, hb9⟩
      have HB9 := Lib.hid (below_then HB8.out hb9)
      clear hb9 x0 x1 x2 xl
      go_wp2
      go_ret
      exact ⟨rfl, HB9.out⟩
    · have t0 : ((X.length : Int) == 0) = false := by rw [beq_eq_false_iff_ne]; omega
      go_wp2_with fail
      refine (lpick_any A c D 3 X.length w8 (HD.out.below HB8.out) HW.out hl (by omega) (by omega)).mono ?_
      rintro e w9 ⟨r, rfl, hr, rfl⟩
      have hrl : r < X.length := by
        by_cases h2 : 2 ≤ X.length
        · have := hr.1 (by omega); omega
        · have := hr.2 (by omega); omega
      obtain ⟨bx, ox, x, hA1, hbx, hx, hcx⟩ := (Lies.of_own HO8.out).at_ (i := r) hrl
      subst hA1
      have HXr := Lib.hid hx
      have HLw := Lib.hid (Lies.of_own HO8.out)
      have hcap := (row_cap HO8.out).1
      have HTd := Lib.hid (own_tidy HO8.out)
      obtain ⟨As, hs1, hLs, _⟩ := slice_take Tryd.elemInts Tryd.sizeInt (some ⟨bx, ox, none⟩) X.length c1 X r w8 (Lib.hid rfl) HLw.out HTd.out (by omega) hcap
      have hsl : (X.take r).length = r := by rw [List.length_take]; omega
      rw [hsl] at hs1
      have hcnt : (X.take r).count x ≤ 5001 := Nat.le_trans List.count_le_length (by omega)
      have hR1 := fun (W : World) (hW : Below w8.heap.size w8 W) => CRk.out W x r (HL8.out.below hW)
      have hR2 := fun (W : World) (hW : Below w8.heap.size w8 W) => CRk.out W x ((r + 1 : Nat) : Int) (HL8.out.below hW)
      have hAt := fun (W : World) (hW : Below w8.heap.size w8 W) => CAt.out W r (HL8.out.below hW)
      have hSe := fun (W : World) (hW : Below w8.heap.size w8 W) => CSe.out W x ((X.take r).count x : Nat) (HL8.out.below hW) ((HT.out.below HB8.out).below hW)
      have hCo := fun (W : World) (hW : Below w8.heap.size w8 W) => count_any As r c1 (X.take r) x W (hLs.below hW) (Lib.hid hsl) (by omega)
      rw [wvX_rank HOk.out x (by omega)] at hR1
      rw [wvX_rank1 HOk.out hx] at hR2
      rw [wvX_at HOk.out hx] at hAt
      rw [wvX_sel HOk.out hx] at hSe
      obtain ⟨k, hk⟩ : ∃ k, (X.take r).count x = k := ⟨_, rfl⟩
      rw [hk] at hR1 hR2 hSe hCo hcnt
      have er : ((r + 1 : Nat) : Int) = (r : Int) + 1 := by omega
      have ek : ((k + 1 : Nat) : Int) = (k : Int) + 1 := by omega
      rw [er, ek] at hR2
      have er2 : IntKind.i64.wrap ((r : Int) + 1) = (r : Int) + 1 := IntWalk.i64_in _ (by omega)
      have ek2 : IntKind.i64.wrap ((k : Int) + 1) = (k : Int) + 1 := IntWalk.i64_in _ (by omega)
      have R1 := Lib.hid fun (W : World) (hW : Below w8.heap.size w8 W) => (hR1 W hW).mono fun _ _ h => (⟨h.1, below_then hW h.2⟩ : _ ∧ Below w8.heap.size w8 _)
      have R2 := Lib.hid fun (W : World) (hW : Below w8.heap.size w8 W) => (hR2 W hW).mono fun _ _ h => (⟨h.1, below_then hW h.2⟩ : _ ∧ Below w8.heap.size w8 _)
      have At := Lib.hid fun (W : World) (hW : Below w8.heap.size w8 W) => (hAt W hW).mono fun _ _ h => (⟨h.1, below_then hW h.2⟩ : _ ∧ Below w8.heap.size w8 _)
      have Se := Lib.hid fun (W : World) (hW : Below w8.heap.size w8 W) => (hSe W hW).mono fun _ _ h => (⟨h.1, below_then hW h.2⟩ : _ ∧ Below w8.heap.size w8 _)
      have Co := Lib.hid fun (W : World) (hW : Below w8.heap.size w8 W) => (hCo W hW).mono fun e w' h => (⟨h.1, by rw [h.2]; exact hW⟩ : e = .returned (.int .i64 (k : Int)) ∧ Below w8.heap.size w8 w')
      have x0 : ∀ q : BW w8, q.val.cell? ⟨b5, 0, none⟩ = some (.int .i64 (X.length : Int)) := fun q => (q.ok.cell (p := ⟨b5, 0, none⟩) HX8.out.lt).trans (HX8.out.cell 0)
      have x1 : ∀ q : BW w8, q.val.cell? ⟨b5, 1, none⟩ = some (.slice ZA4 (wzer X).length zc4) := fun q => (q.ok.cell (p := ⟨b5, 1, none⟩) HX8.out.lt).trans (HX8.out.cell 1)
      have x2 : ∀ q : BW w8, q.val.cell? ⟨b5, 2, none⟩ = some (.slice LA4 P4.length lc4) := fun q => (q.ok.cell (p := ⟨b5, 2, none⟩) HX8.out.lt).trans (HX8.out.cell 2)
      have x3 : ∀ q : BW w8, q.val.cell? ⟨bx, ox + r, none⟩ = some (.int .i64 x) := fun q => (q.ok.cell (p := ⟨bx, ox + r, none⟩) hbx).trans hcx
      have r0 : (0 : Int) ≤ (r : Int) := by omega
      have r1 : (r : Int) < (X.length : Int) := by omega
      have HB := HB8
      clear hR1 hR2 hAt hSe hCo hx hLs hcap hcx hbx HX8 HL8 HO8 HLw HTd CRk CAt CSe hr er ek hk hsl hcnt
      go_wp2_with fail
      refine wp_region_bw (by kernel_rfl) (by kernel_rfl) w8 (Below.refl _ _) ?_
      repeat (go_big_quiet_step (first | (go_at_call 13; exact Calls.bw (R1.out _ (BW.ok _)))))
      refine wpQuiet_nil ?_
      rintro W9 ⟨q9, hq9⟩
      have inv := q9.ok
      rw [← hq9] at inv
      have Hinv := Lib.hid inv
      clear hq9 q9 inv
      go_wp2_with fail
      refine wp_region_bw (by kernel_rfl) (by kernel_rfl) w8 Hinv.out ?_
      repeat (go_big_quiet_step (first | (go_at_call 11; exact Calls.bw (At.out _ (BW.ok _))) | (go_at_call 13; exact Calls.bw (R2.out _ (BW.ok _))) | (go_at_call 15; exact Calls.bw (Se.out _ (BW.ok _))) | (go_at_call 14; exact Calls.bw (Co.out _ (BW.ok _)))))
      refine wpQuiet_nil ?_
      rintro W10 ⟨q10, hq10⟩
      have inv := q10.ok
      rw [← hq10] at inv
      have HBf := Lib.hid (below_then HB.out inv)
      clear hq10 q10 inv x0 x1 x2 x3
      go_wp2
      go_ret
      exact ⟨rfl, HBf.out⟩
  · have HBx := Lib.hid (below_then HB3.out hb4)
    rw [hok]
    clear hb4 HB3 HO3
    go_wp2
    go_ret
    exact ⟨rfl, HBx.out.alloc HBx.out.size _⟩

end Go.Proofs.YtoehgcakfblblaaDoor
