/- The specification's WaveOk. -/
import Derived.Test.YtnlpmcgpdaifoaaDoorWvVal
import Derived.Test.YtnlpmcgpdaifoaaDoorWvQ
import Derived.Test.YtnlpmcgpdaifoaaDoorRank1s
namespace Go.Proofs.YtnlpmcgpdaifoaaDoor
open Go.RowKit
set_option maxRecDepth 100000

set_option maxHeartbeats 3200000 in
theorem specWaveOk_in (n : Nat) (ZA : Option Addr) (zc : Nat) (Z : List Int) (LA : Option Addr) (lc : Nat) (P : List LvA) (w : World) (hL : LiesWa w ⟨n, ZA, zc, Z, LA, lc, P⟩) (hn : n ≤ 1000) (h2 : Hid (P.length = 9)) (h3 : Hid (Z.length = 9)) :
    Calls Tryd.prog 58 #[.agg #[.int .i64 n, .slice ZA 9 zc, .slice LA 9 lc]] w fun e w' => e = .returned (.bool (wvOk n Z (P.map LvA.val))) ∧ Below w.heap.size w w' := by
  have HL := Lib.hid hL
  have t0 : decide ((n : Int) < 0) = false := by simp
  have t1 : decide ((1000 : Int) < (n : Int)) = false := by simp; omega
  clear hL
  obtain ⟨R, hR⟩ : ∃ R, wvOk n Z (P.map LvA.val) = R := ⟨_, rfl⟩
  have HR := Lib.hid hR
  rw [hR]
  clear hR
  go_enter Tryd.func58, Tryd.ntmps58
  have HB0 : Hid (Below w.heap.size w (w.alloc (.cells #[.int .i64 n, .slice ZA 9 zc, .slice LA 9 lc] 28))) := Lib.hid (by go_grown)
  have HX0 : Hid (Box (w.alloc (.cells #[.int .i64 n, .slice ZA 9 zc, .slice LA 9 lc] 28)) w.heap.size 28 #[.int .i64 n, .slice ZA 9 zc, .slice LA 9 lc]) := Lib.hid (Box.made _ _ _)
  go_wp2
  go_loopw [3] (fun i wr => ∃ k : Nat, k ≤ 9 ∧ i = .int .i64 k ∧ Hid (Below w.heap.size w wr) ∧ Hid (Box wr w.heap.size 28 #[.int .i64 n, .slice ZA 9 zc, .slice LA 9 lc]) ∧ Hid (∀ (j : Nat) v z, j < k → (P.map LvA.val)[j]? = some v → Z[j]? = some z → lvB n v z = true)) (fun i _ => 9 - (intOf i).toNat)
  case atStart => exact ⟨0, Nat.zero_le _, rfl, HB0, HX0, Lib.hid fun j v z h => by omega⟩
  case round =>
    obtain ⟨k, hk, rfl, HB, HX, HV⟩ := hrel
    clear HB0 HX0
    by_cases hlt : k < 9
    · obtain ⟨p, hp⟩ : ∃ p, P[k]? = some p := ⟨P[k]'(by rw [h2.out]; exact hlt), List.getElem?_eq_getElem _⟩
      obtain ⟨z, hz⟩ : ∃ z, Z[k]? = some z := ⟨Z[k]'(by rw [h3.out]; exact hlt), List.getElem?_eq_getElem _⟩
      obtain ⟨⟨b, o, hLA, hbl, hc0, hc1⟩, hpl, hpt, hpb⟩ := (HL.out.lev.below HB.out) k p hp
      obtain ⟨bz, oz, hZA, hbz2, hcz⟩ := (HL.out.zer.below HB.out) k z hz
      simp only at hLA hZA hc1
      subst hLA hZA
      have hxl := HX.out.lt
      have x0 : ∀ q : BW wr, q.val.cell? ⟨w.heap.size, 0, none⟩ = some (.int .i64 n) := fun q => (HX.out.below q.ok hxl).cell 0
      have x1 : ∀ q : BW wr, q.val.cell? ⟨w.heap.size, 1, none⟩ = some (.slice (some ⟨bz, oz, none⟩) 9 zc) := fun q => (HX.out.below q.ok hxl).cell 1
      have x2 : ∀ q : BW wr, q.val.cell? ⟨w.heap.size, 2, none⟩ = some (.slice (some ⟨b, o, none⟩) 9 lc) := fun q => (HX.out.below q.ok hxl).cell 2
      have x3 : ∀ q : BW wr, q.val.cell? ⟨b, o + k * 2, none⟩ = some (.int .i64 p.K) := fun q => (q.ok.cell (p := ⟨b, o + k * 2, none⟩) hbl).trans hc0
      have x4 : ∀ q : BW wr, q.val.cell? ⟨b, o + k * 2 + 1, none⟩ = some (.slice p.A p.L.length p.c) := fun q => (q.ok.cell (p := ⟨b, o + k * 2 + 1, none⟩) hbl).trans hc1
      have x5 : ∀ q : BW wr, q.val.cell? ⟨bz, oz + k, none⟩ = some (.int .i64 z) := fun q => (q.ok.cell (p := ⟨bz, oz + k, none⟩) hbz2).trans hcz
      have CO := Lib.hid fun (W : World) (hW : Below wr.heap.size wr W) => (specOk_any p.K p.A p.c p.L W (hpl.below hW) hpb).mono fun _ _ h => (⟨h.1, below_then hW h.2⟩ : _ ∧ Below wr.heap.size wr _)
      have CR := Lib.hid fun (W : World) (hW : Below wr.heap.size wr W) => (specRank_any p.K p.A p.c p.L 0 n W (hpl.below hW) hpb).mono fun _ _ h => (⟨h.1, below_then hW h.2⟩ : _ ∧ Below wr.heap.size wr _)
      have HVv : Hid ((P.map LvA.val)[k]? = some p.val) := Lib.hid (by rw [List.getElem?_map, hp]; rfl)
      have HZ := Lib.hid hz
      have k9 : (k : Int) < 9 := by omega
      have k0 : (0 : Int) ≤ (k : Int) := by omega
      clear hp hz hc0 hc1 hcz hpl hpt hpb hbl hbz2 hxl
      by_cases hK : p.K = (n : Int)
      · have tk : (p.K != (n : Int)) = false := by simpa using hK
        have HK := Lib.hid hK
        clear hK
        cases hok : okB p.K p.L
        · have HNo : Hid (R = false) := Lib.hid (by
            rw [← HR.out]
            exact wvOk_no HVv.out HZ.out (show lvB (n : Int) p.val z = false by unfold lvB; rw [← HK.out]; show (_ && okB p.K p.L && _) = false; rw [hok]; simp))
          rw [hok] at CO
          clear hok
          go_wp2_with fail
          refine wp_region_bw (by kernel_rfl) (by kernel_rfl) wr (Below.refl _ _) ?_
          repeat (go_big_quiet_step (first | (go_at_call 70; exact Calls.bw (CO.out _ (BW.ok _))) | (go_at_call 71; exact Calls.bw (CR.out _ (BW.ok _)))))
          refine wpQuiet_nil ?_
          rintro W7 ⟨q7, hq7⟩
          have HB7 : Hid (Below w.heap.size w W7) := Lib.hid (by rw [hq7]; exact below_then HB.out q7.ok)
          clear hq7 q7 x0 x1 x2 x3 x4 x5 CO CR tk
          go_wp2
          go_ret
          exact ⟨ret_bool HNo.out.symm, HB7.out⟩
        · rw [hok] at CO
          have hrv : rankV p.K p.L 0 n = (cnt p.L 0 n : Int) := by
            unfold rankV
            rw [if_pos ⟨hok, .inl rfl, by omega, by rw [HK.out]; exact Int.le_refl _⟩, Int.toNat_natCast]
          rw [hrv] at CR
          have HOk := Lib.hid hok
          clear hok hrv
          obtain ⟨c, hc⟩ : ∃ c, cnt p.L 0 n = c := ⟨_, rfl⟩
          have HC := Lib.hid hc
          rw [hc] at CR
          clear hc
          by_cases hzc : (c : Int) = z
          · have tz : ((c : Int) != z) = false := by simpa using hzc
            have HY : Hid (lvB (n : Int) p.val z = true) := Lib.hid (by
              unfold lvB
              show (decide (p.K = (n : Int)) && okB (n : Int) p.L && decide (z = (cnt p.L 0 (n : Int).toNat : Int))) = true
              rw [decide_eq_true HK.out, ← HK.out, HOk.out, HK.out, Int.toNat_natCast, HC.out, decide_eq_true hzc.symm]
              rfl)
            clear hzc
            go_wp2_with fail
            refine wp_region_bw (by kernel_rfl) (by kernel_rfl) wr (Below.refl _ _) ?_
            repeat (go_big_quiet_step (first | (go_at_call 70; exact Calls.bw (CO.out _ (BW.ok _))) | (go_at_call 71; exact Calls.bw (CR.out _ (BW.ok _)))))
            refine wpQuiet_nil ?_
            rintro W7 ⟨q7, hq7⟩
            have HB7 : Hid (Below w.heap.size w W7) := Lib.hid (by rw [hq7]; exact below_then HB.out q7.ok)
            have HX7 : Hid (Box W7 w.heap.size 28 #[.int .i64 n, .slice (some ⟨bz, oz, none⟩) 9 zc, .slice (some ⟨b, o, none⟩) 9 lc]) := Lib.hid (by rw [hq7]; exact HX.out.below q7.ok HX.out.lt)
            clear hq7 q7 x0 x1 x2 x3 x4 x5 CO CR tk tz
            go_wp2
            go_roundw
            case rel =>
              refine ⟨k + 1, by omega, by go_num, HB7, HX7, Lib.hid fun j v z' hj hv hz' => ?_⟩
              by_cases hjk : j < k
              · exact HV.out j v z' hjk hv hz'
              · obtain rfl : j = k := by omega
                rw [HVv.out] at hv
                rw [HZ.out] at hz'
                rw [← Option.some.inj hv, ← Option.some.inj hz']
                exact HY.out
            case measure => simp [intOf]; omega
          · have tz : ((c : Int) != z) = true := by simpa using hzc
            have HNo : Hid (R = false) := Lib.hid (by
              rw [← HR.out]
              exact wvOk_no HVv.out HZ.out (by
                unfold lvB
                show (decide (p.K = (n : Int)) && okB (n : Int) p.L && decide (z = (cnt p.L 0 (n : Int).toNat : Int))) = false
                rw [Int.toNat_natCast, HC.out, decide_eq_false (show ¬ z = (c : Int) from fun e => hzc e.symm), Bool.and_false]))
            clear hzc
            go_wp2_with fail
            refine wp_region_bw (by kernel_rfl) (by kernel_rfl) wr (Below.refl _ _) ?_
            repeat (go_big_quiet_step (first | (go_at_call 70; exact Calls.bw (CO.out _ (BW.ok _))) | (go_at_call 71; exact Calls.bw (CR.out _ (BW.ok _)))))
            refine wpQuiet_nil ?_
            rintro W7 ⟨q7, hq7⟩
            have HB7 : Hid (Below w.heap.size w W7) := Lib.hid (by rw [hq7]; exact below_then HB.out q7.ok)
            clear hq7 q7 x0 x1 x2 x3 x4 x5 CO CR tk tz
            go_wp2
            go_ret
            exact ⟨ret_bool HNo.out.symm, HB7.out⟩
      · have tk : (p.K != (n : Int)) = true := by simpa using hK
        have HNo : Hid (R = false) := Lib.hid (by
          rw [← HR.out]
          exact wvOk_no HVv.out HZ.out (by
            unfold lvB
            show (decide (p.K = (n : Int)) && okB (n : Int) p.L && decide (z = (cnt p.L 0 (n : Int).toNat : Int))) = false
            rw [decide_eq_false hK, Bool.false_and, Bool.false_and]))
        clear hK CO CR
        go_wp2_with fail
        refine wp_region_bw (by kernel_rfl) (by kernel_rfl) wr (Below.refl _ _) ?_
        repeat (go_big_quiet_step (fail))
        refine wpQuiet_nil ?_
        rintro W7 ⟨q7, hq7⟩
        have HB7 : Hid (Below w.heap.size w W7) := Lib.hid (by rw [hq7]; exact below_then HB.out q7.ok)
        clear hq7 q7 x0 x1 x2 x3 x4 x5 tk
        go_wp2
        go_ret
        exact ⟨ret_bool HNo.out.symm, HB7.out⟩
    · obtain rfl : k = 9 := by omega
      have HY : Hid (R = true) := Lib.hid (by
        rw [← HR.out]
        exact (wvOk_iff _ _ _).2 ⟨⟨by simp, by omega, by rw [List.length_map, h2.out], h3.out⟩, fun j v z hv hz => HV.out j v z (by
          have := (List.getElem?_eq_some_iff.1 hv).1
          rw [List.length_map, h2.out] at this
          exact this) hv hz⟩)
      clear HV
      go_wp2
      go_ret
      exact ⟨ret_bool HY.out.symm, HB.out⟩

set_option maxHeartbeats 800000 in
theorem specWaveOk_bad (N : Int) (ZA : Option Addr) (zc l : Nat) (LA : Option Addr) (lc m : Nat) (w : World) (h : ¬ (0 ≤ N ∧ N ≤ 1000 ∧ m = 9 ∧ l = 9)) (hl : l ≤ 9223372036854775807) (hm : m ≤ 9223372036854775807) :
    Calls Tryd.prog 58 #[.agg #[.int .i64 N, .slice ZA l zc, .slice LA m lc]] w fun e w' => e = .returned (.bool false) ∧ Below w.heap.size w w' := by
  have HB : Hid (Below w.heap.size w (w.alloc (.cells #[.int .i64 N, .slice ZA l zc, .slice LA m lc] 28))) := Lib.hid (by go_grown)
  by_cases h0 : N < 0
  · have t0 : decide (N < 0) = true := by simpa using h0
    clear h
    go_enter Tryd.func58, Tryd.ntmps58
    go_wp2
    go_ret
    exact ⟨rfl, HB.out⟩
  · have t0 : decide (N < 0) = false := by simpa using h0
    by_cases h1 : 1000 < N
    · have t1 : decide (1000 < N) = true := by simpa using h1
      clear h
      go_enter Tryd.func58, Tryd.ntmps58
      go_wp2
      go_ret
      exact ⟨rfl, HB.out⟩
    · have t1 : decide (1000 < N) = false := by simpa using h1
      by_cases h2 : m = 9
      · have t2 : ((m : Int) != 9) = false := by rw [bne_eq_false_iff_eq]; omega
        have t3 : ((l : Int) != 9) = true := by rw [bne_iff_ne]; intro e; exact h ⟨by omega, by omega, h2, by omega⟩
        clear h h2
        go_enter Tryd.func58, Tryd.ntmps58
        go_wp2
        go_ret
        exact ⟨rfl, HB.out⟩
      · have t2 : ((m : Int) != 9) = true := by rw [bne_iff_ne]; omega
        clear h h2
        go_enter Tryd.func58, Tryd.ntmps58
        go_wp2
        go_ret
        exact ⟨rfl, HB.out⟩

theorem specWaveOk_any (a : WaA) (w : World) (hL : LiesWa w a) : Calls Tryd.prog 58 #[a.value] w fun e w' => e = .returned (.bool a.ok) ∧ Below w.heap.size w w' := by
  by_cases h : 0 ≤ a.N ∧ a.N ≤ 1000 ∧ a.P.length = 9 ∧ a.Z.length = 9
  · obtain ⟨N, ZA, zc, Z, LA, lc, P⟩ := a
    obtain ⟨h0, h1, h2, h3⟩ := h
    simp only at h0 h1 h2 h3
    obtain ⟨n, rfl⟩ := Int.eq_ofNat_of_zero_le h0
    have c := specWaveOk_in n ZA zc Z LA lc P w hL (by omega) (Lib.hid h2) (Lib.hid h3)
    unfold WaA.value WaA.ok
    simp only
    rw [h2, h3]
    exact c
  · have hok : a.ok = false := wvOk_head (by rw [List.length_map]; exact h)
    rw [hok]
    exact specWaveOk_bad a.N a.ZA a.zc _ a.LA a.lc _ w h hL.size.1 hL.size.2

end Go.Proofs.YtnlpmcgpdaifoaaDoor
