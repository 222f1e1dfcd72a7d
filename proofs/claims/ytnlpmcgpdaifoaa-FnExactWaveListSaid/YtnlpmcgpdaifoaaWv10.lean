/- WaveList, WaveAt, WaveRank, WaveLess of the specification. -/
import Derived.Test.YtnlpmcgpdaifoaaWv8
import Derived.Test.YtnlpmcgpdaifoaaWv9
import Derived.Test.YtnlpmcgpdaifoaaCntL
import Derived.Test.YtnlpmcgpdaifoaaAppend2
namespace Go.Proofs.Ytnlpmcgpdaifoaa
open Go.RowKit
set_option maxRecDepth 100000

theorem newI_nil {w w' : World} (hb : Below w.heap.size w w') : NewI w [] (.returned (.slice none 0 0)) w' := ⟨none, 0, rfl, World.ownsRow_nil _ _ _ _, hb⟩
theorem NewI.from {w w1 w' : World} {M : List Int} {e : Ending} (h : NewI w1 M e w') (hb : Below w.heap.size w w1) : NewI w M e w' := by
  obtain ⟨A, c, h1, h2, h3⟩ := h
  exact ⟨A, c, h1, own_mono h2 hb.size, below_then hb h3⟩

section
variable (N : Int) (ZA : Option Addr) (zc : Nat) (Z : List Int) (LA : Option Addr) (lc : Nat) (P : List LvA)
set_option maxHeartbeats 1600000 in
theorem specWaveList_any (w : World) (hL : LiesWa w ⟨N, ZA, zc, Z, LA, lc, P⟩) : Calls Try.prog 29 #[WaA.value ⟨N, ZA, zc, Z, LA, lc, P⟩] w (NewI w (wList N Z (P.map LvA.val))) := by
  have HB0 : Hid (Below w.heap.size w (w.alloc (.cells #[.int .i64 N, .slice ZA Z.length zc, .slice LA P.length lc] 27))) := Lib.hid (by go_grown)
  have HX0 : Hid (Box (w.alloc (.cells #[.int .i64 N, .slice ZA Z.length zc, .slice LA P.length lc] 27)) w.heap.size 27 #[.int .i64 N, .slice ZA Z.length zc, .slice LA P.length lc]) := Lib.hid (Box.made _ _ _)
  have CO := Lib.hid fun (W : World) (hW : Below w.heap.size w W) => specWaveOk_any ⟨N, ZA, zc, Z, LA, lc, P⟩ W (hL.below hW)
  have CL := Lib.hid fun (W : World) (hW : Below w.heap.size w W) hok => l07List_any ⟨N, ZA, zc, Z, LA, lc, P⟩ W (hL.below hW) hok
  unfold WaA.value at *
  simp only at CO CL ⊢
  clear hL
  obtain ⟨M, hM⟩ : ∃ M, wList N Z (P.map LvA.val) = M := ⟨_, rfl⟩
  rw [hM]
  go_enter Try.func29, Try.ntmps29
  go_wp2_with fail
  generalize w.alloc (.cells #[.int .i64 N, .slice ZA Z.length zc, .slice LA P.length lc] 27) = W0 at *
  refine (CO.out _ HB0.out).mono ?_
  rintro e w1 ⟨rfl, hb1⟩
  have HB1 := Lib.hid (below_then HB0.out hb1)
  have hx1 := HX0.out.below hb1 HX0.out.lt
  have x0 := hx1.cell 0
  have x1 := hx1.cell 1
  have x2 := hx1.cell 2
  have xl := hx1.lt
  clear hb1 hx1 CO
  cases hok : WaA.ok ⟨N, ZA, zc, Z, LA, lc, P⟩
  · have HN : Hid (NewI w M (.returned (.slice none 0 0)) w1) := Lib.hid (by
      rw [← hM, show wList N Z (P.map LvA.val) = [] by unfold wList; rw [show wvOk N Z (P.map LvA.val) = false from hok]; rfl]
      exact newI_nil HB1.out)
    clear hok hM CL
    go_wp2
    go_ret
    exact HN.out
  · have C := Lib.hid (CL.out w1 HB1.out hok)
    rw [show wB N (P.map LvA.val) = M by rw [← hM]; unfold wList; rw [show wvOk N Z (P.map LvA.val) = true from hok]; rfl] at C
    clear hok hM CL
    go_wp2_with fail
    refine C.out.mono ?_
    intro e w2 hN
    obtain ⟨A, c, rfl, ho, hb⟩ := hN.from HB1.out
    have HN := Lib.hid (show NewI w M (.returned (.slice A M.length c)) w2 from ⟨A, c, rfl, ho, hb⟩)
    clear hN ho hb
    go_wp2
    go_ret
    exact HN.out

set_option maxHeartbeats 1600000 in
theorem specWaveAt_any (i : Int) (w : World) (hL : LiesWa w ⟨N, ZA, zc, Z, LA, lc, P⟩) : Calls Try.prog 32 #[WaA.value ⟨N, ZA, zc, Z, LA, lc, P⟩, .int .i64 i] w fun e w' => e = .returned (.int .i64 (wAt N Z (P.map LvA.val) i)) ∧ Below w.heap.size w w' := by
  have HB0 : Hid (Below w.heap.size w (w.alloc (.cells #[.int .i64 N, .slice ZA Z.length zc, .slice LA P.length lc] 27))) := Lib.hid (by go_grown)
  have HX0 : Hid (Box (w.alloc (.cells #[.int .i64 N, .slice ZA Z.length zc, .slice LA P.length lc] 27)) w.heap.size 27 #[.int .i64 N, .slice ZA Z.length zc, .slice LA P.length lc]) := Lib.hid (Box.made _ _ _)
  have CO := Lib.hid fun (W : World) (hW : Below w.heap.size w W) => specWaveOk_any ⟨N, ZA, zc, Z, LA, lc, P⟩ W (hL.below hW)
  have CL := Lib.hid fun (W : World) (hW : Below w.heap.size w W) hok => l07List_any ⟨N, ZA, zc, Z, LA, lc, P⟩ W (hL.below hW) hok
  unfold WaA.value at *
  simp only at CO CL ⊢
  clear hL
  obtain ⟨v, hv⟩ : ∃ v, wAt N Z (P.map LvA.val) i = v := ⟨_, rfl⟩
  have HV := Lib.hid hv
  rw [hv]
  clear hv
  go_enter Try.func32, Try.ntmps32
  go_wp2_with fail
  generalize w.alloc (.cells #[.int .i64 N, .slice ZA Z.length zc, .slice LA P.length lc] 27) = W0 at *
  refine (CO.out _ HB0.out).mono ?_
  rintro e w1 ⟨rfl, hb1⟩
  have HB1 := Lib.hid (below_then HB0.out hb1)
  have hx1 := HX0.out.below hb1 HX0.out.lt
  have x0 := hx1.cell 0
  have x1 := hx1.cell 1
  have x2 := hx1.cell 2
  have xl := hx1.lt
  clear hb1 hx1 CO
  cases hok : WaA.ok ⟨N, ZA, zc, Z, LA, lc, P⟩
  · have HQ : Hid (v = -1) := Lib.hid (by rw [← HV.out, wAt_bad _ _ _ _ hok])
    clear hok CL
    go_wp2
    go_ret
    exact ⟨ret_int HQ.out.symm, HB1.out⟩
  · by_cases h0 : i < 0
    · have t0 : decide (i < 0) = true := by simpa using h0
      have HQ : Hid (v = -1) := Lib.hid (by rw [← HV.out, wAt_out _ _ _ _ (.inl h0)])
      clear hok CL h0
      go_wp2
      go_ret
      exact ⟨ret_int HQ.out.symm, HB1.out⟩
    · have t0 : decide (i < 0) = false := by simpa using h0
      by_cases h1 : N ≤ i
      · have t1 : decide (N ≤ i) = true := by simpa using h1
        have HQ : Hid (v = -1) := Lib.hid (by rw [← HV.out, wAt_out _ _ _ _ (.inr h1)])
        clear hok CL h0 h1
        go_wp2
        go_ret
        exact ⟨ret_int HQ.out.symm, HB1.out⟩
      · have t1 : decide (N ≤ i) = false := by simpa using h1
        obtain ⟨j, rfl⟩ := Int.eq_ofNat_of_zero_le (show 0 ≤ i by omega)
        obtain ⟨n, rfl⟩ := Int.eq_ofNat_of_zero_le (show 0 ≤ N by omega)
        have hjn : j < n := by omega
        have t1n : decide (n ≤ j) = false := by simp; omega
        have C := Lib.hid (CL.out w1 HB1.out hok)
        have HQ : Hid ((numW n (lvs P) j : Int) = v) := Lib.hid (by rw [← HV.out, wAt_in n Z P j hok hjn])
        unfold wB at C
        rw [wLs_val, Int.toNat_natCast] at C
        have hlen := listW_len n (lvs P)
        have HG := Lib.hid (listW_get n (lvs P) j hjn)
        obtain ⟨x, hx⟩ : ∃ x, (numW n (lvs P) j : Int) = x := ⟨_, rfl⟩
        rw [hx] at HQ HG
        generalize listW n (lvs P) = M at *
        clear hok CL h0 h1 hx
        go_wp2_with fail
        refine C.out.mono ?_
        rintro e w2 ⟨A, c, rfl, ho, hb2⟩
        have HB2 := Lib.hid (below_then HB1.out hb2)
        obtain ⟨b, o, hA, _, hcell⟩ := (Lies.of_own ho) j x HG.out
        subst hA
        rw [hlen]
        have j0 : (0 : Int) ≤ (j : Int) := by omega
        have j1 : (j : Int) < (n : Int) := by omega
        clear ho hb2
        go_wp2
        go_ret
        exact ⟨ret_int HQ.out, HB2.out⟩

set_option maxHeartbeats 1600000 in
theorem specWaveRank_any (x i : Int) (w : World) (hL : LiesWa w ⟨N, ZA, zc, Z, LA, lc, P⟩) : Calls Try.prog 34 #[WaA.value ⟨N, ZA, zc, Z, LA, lc, P⟩, .int .i64 x, .int .i64 i] w fun e w' => e = .returned (.int .i64 (wRank N Z (P.map LvA.val) x i)) ∧ Below w.heap.size w w' := by
  have HB0 : Hid (Below w.heap.size w (w.alloc (.cells #[.int .i64 N, .slice ZA Z.length zc, .slice LA P.length lc] 27))) := Lib.hid (by go_grown)
  have HX0 : Hid (Box (w.alloc (.cells #[.int .i64 N, .slice ZA Z.length zc, .slice LA P.length lc] 27)) w.heap.size 27 #[.int .i64 N, .slice ZA Z.length zc, .slice LA P.length lc]) := Lib.hid (Box.made _ _ _)
  have CO := Lib.hid fun (W : World) (hW : Below w.heap.size w W) => specWaveOk_any ⟨N, ZA, zc, Z, LA, lc, P⟩ W (hL.below hW)
  have CL := Lib.hid fun (W : World) (hW : Below w.heap.size w W) hok => l07List_any ⟨N, ZA, zc, Z, LA, lc, P⟩ W (hL.below hW) hok
  unfold WaA.value at *
  simp only at CO CL ⊢
  clear hL
  obtain ⟨v, hv⟩ : ∃ v, wRank N Z (P.map LvA.val) x i = v := ⟨_, rfl⟩
  have HV := Lib.hid hv
  rw [hv]
  clear hv
  go_enter Try.func34, Try.ntmps34
  go_wp2_with fail
  generalize w.alloc (.cells #[.int .i64 N, .slice ZA Z.length zc, .slice LA P.length lc] 27) = W0 at *
  refine (CO.out _ HB0.out).mono ?_
  rintro e w1 ⟨rfl, hb1⟩
  have HB1 := Lib.hid (below_then HB0.out hb1)
  have hx1 := HX0.out.below hb1 HX0.out.lt
  have x0 := hx1.cell 0
  have x1 := hx1.cell 1
  have x2 := hx1.cell 2
  have xl := hx1.lt
  clear hb1 hx1 CO
  cases hok : WaA.ok ⟨N, ZA, zc, Z, LA, lc, P⟩
  · have HQ : Hid (v = -1) := Lib.hid (by rw [← HV.out, wRank_bad _ _ _ _ _ hok])
    clear hok CL
    go_wp2
    go_ret
    exact ⟨ret_int HQ.out.symm, HB1.out⟩
  · by_cases h0 : i < 0
    · have t0 : decide (i < 0) = true := by simpa using h0
      have HQ : Hid (v = -1) := Lib.hid (by rw [← HV.out, wRank_out _ _ _ _ _ (by omega)])
      clear hok CL h0
      go_wp2
      go_ret
      exact ⟨ret_int HQ.out.symm, HB1.out⟩
    · have t0 : decide (i < 0) = false := by simpa using h0
      by_cases h1 : N < i
      · have t1 : decide (N < i) = true := by simpa using h1
        have HQ : Hid (v = -1) := Lib.hid (by rw [← HV.out, wRank_out _ _ _ _ _ (by omega)])
        clear hok CL h0 h1
        go_wp2
        go_ret
        exact ⟨ret_int HQ.out.symm, HB1.out⟩
      · have t1 : decide (N < i) = false := by simpa using h1
        obtain ⟨j, rfl⟩ := Int.eq_ofNat_of_zero_le (show 0 ≤ i by omega)
        obtain ⟨n, rfl⟩ := Int.eq_ofNat_of_zero_le (show 0 ≤ N by omega)
        have hjn : j ≤ n := by omega
        have hn1000 := wvOk_n hok
        have t1n : decide (n < j) = false := by simp; omega
        have C := Lib.hid (CL.out w1 HB1.out hok)
        have hlen := wB_len n (P.map LvA.val)
        rw [Int.toNat_natCast] at hlen
        have HQ : Hid (v = (rankL (wB n (P.map LvA.val)) x j : Int)) := Lib.hid (by rw [← HV.out]; unfold wRank; rw [if_pos ⟨hok, by omega, by omega⟩, Int.toNat_natCast])
        unfold rankL at HQ
        generalize wB n (P.map LvA.val) = M at *
        have Hlen := Lib.hid hlen
        clear hok CL h0 h1
        go_wp2_with fail
        refine C.out.mono ?_
        rintro e w2 ⟨A, c, rfl, ho, hb2⟩
        have HB2 := Lib.hid (below_then HB1.out hb2)
        have HX := Lib.hid (Lies.of_own ho)
        rw [hlen]
        clear ho hb2 hlen
        go_wp2
        go_loop [8, 9] (fun q t => ∃ k : Nat, k ≤ j ∧ t = .int .i64 k ∧ q = .int .i64 ((M.take k).count x : Nat)) (fun _ t => j - (intOf t).toNat)
        case atStart => exact ⟨0, Nat.zero_le _, rfl, rfl⟩
        case round =>
          obtain ⟨k, hk, rfl, rfl⟩ := hrel
          by_cases hlt : k < j
          · obtain ⟨b, o, y, hA, hbl, hy, hc⟩ := HX.out.at_ (i := k) (by rw [Hlen.out]; omega)
            subst hA
            have HS := Lib.hid (count_take M x y k hy)
            have hle : (M.take k).count x ≤ k := Nat.le_trans List.count_le_length (by rw [List.length_take]; omega)
            have k0 : (0 : Int) ≤ (k : Int) := by omega
            have k1 : (k : Int) < (n : Int) := by omega
            obtain ⟨u, hu⟩ : ∃ u, (M.take k).count x = u := ⟨_, rfl⟩
            rw [hu] at HS hle ⊢
            clear hy hu
            by_cases hyx : y = x
            · rw [if_pos hyx] at HS
              have he : (y == x) = true := by simpa using hyx
              clear hyx
              go_wp2
              go_round
              case rel => exact ⟨k + 1, by omega, by go_num, by rw [HS.out]; go_num⟩
              case measure => simp [intOf]; omega
            · rw [if_neg hyx] at HS
              have he : (y == x) = false := by simpa using hyx
              clear hyx
              go_wp2
              go_round
              case rel => exact ⟨k + 1, by omega, by go_num, by rw [HS.out]; go_num⟩
              case measure => simp [intOf]; omega
          · obtain rfl : k = j := by omega
            obtain ⟨u, hu⟩ : ∃ u, (M.take k).count x = u := ⟨_, rfl⟩
            rw [hu] at HQ ⊢
            clear hu
            go_wp2
            go_ret
            exact ⟨ret_int HQ.out.symm, HB2.out⟩

set_option maxHeartbeats 1600000 in
theorem l07Span_any (lo hi : Int) (w : World) (hL : LiesWa w ⟨N, ZA, zc, Z, LA, lc, P⟩) : Calls Try.prog 41 #[WaA.value ⟨N, ZA, zc, Z, LA, lc, P⟩, .int .i64 lo, .int .i64 hi] w fun e w' => e = .returned (.bool (wvOk N Z (P.map LvA.val) && decide (0 ≤ lo ∧ lo ≤ hi ∧ hi ≤ N))) ∧ Below w.heap.size w w' := by
  have HB0 : Hid (Below w.heap.size w (w.alloc (.cells #[.int .i64 N, .slice ZA Z.length zc, .slice LA P.length lc] 27))) := Lib.hid (by go_grown)
  have HX0 : Hid (Box (w.alloc (.cells #[.int .i64 N, .slice ZA Z.length zc, .slice LA P.length lc] 27)) w.heap.size 27 #[.int .i64 N, .slice ZA Z.length zc, .slice LA P.length lc]) := Lib.hid (Box.made _ _ _)
  have CO := Lib.hid fun (W : World) (hW : Below w.heap.size w W) => specWaveOk_any ⟨N, ZA, zc, Z, LA, lc, P⟩ W (hL.below hW)
  unfold WaA.value WaA.ok at *
  simp only at CO ⊢
  clear hL
  obtain ⟨R, hR⟩ : ∃ R, (wvOk N Z (P.map LvA.val) && decide (0 ≤ lo ∧ lo ≤ hi ∧ hi ≤ N)) = R := ⟨_, rfl⟩
  rw [hR]
  go_enter Try.func41, Try.ntmps41
  go_wp2_with fail
  generalize w.alloc (.cells #[.int .i64 N, .slice ZA Z.length zc, .slice LA P.length lc] 27) = W0 at *
  refine (CO.out _ HB0.out).mono ?_
  rintro e w1 ⟨rfl, hb1⟩
  have HB1 := Lib.hid (below_then HB0.out hb1)
  have hx1 := HX0.out.below hb1 HX0.out.lt
  have x0 := hx1.cell 0
  have xl := hx1.lt
  clear hb1 hx1 CO
  cases hok : wvOk N Z (P.map LvA.val)
  · have HR : Hid (R = false) := Lib.hid (by rw [← hR, hok]; rfl)
    clear hok hR
    go_wp2
    go_ret
    exact ⟨ret_bool HR.out.symm, HB1.out⟩
  · rw [hok, Bool.true_and] at hR
    clear hok
    by_cases h0 : 0 ≤ lo
    · have t0 : decide (0 ≤ lo) = true := by simpa using h0
      by_cases h1 : lo ≤ hi
      · have t1 : decide (lo ≤ hi) = true := by simpa using h1
        by_cases h2 : hi ≤ N
        · have t2 : decide (hi ≤ N) = true := by simpa using h2
          have HR : Hid (R = true) := Lib.hid (by rw [← hR]; simp; omega)
          clear hR
          go_wp2
          go_ret
          exact ⟨ret_bool HR.out.symm, HB1.out⟩
        · have t2 : decide (hi ≤ N) = false := by simpa using h2
          have HR : Hid (R = false) := Lib.hid (by rw [← hR]; simp; omega)
          clear hR
          go_wp2
          go_ret
          exact ⟨ret_bool HR.out.symm, HB1.out⟩
      · have t1 : decide (lo ≤ hi) = false := by simpa using h1
        have HR : Hid (R = false) := Lib.hid (by rw [← hR]; simp; omega)
        clear hR
        go_wp2
        go_ret
        exact ⟨ret_bool HR.out.symm, HB1.out⟩
    · have t0 : decide (0 ≤ lo) = false := by simpa using h0
      have HR : Hid (R = false) := Lib.hid (by rw [← hR]; simp; omega)
      clear hR
      go_wp2
      go_ret
      exact ⟨ret_bool HR.out.symm, HB1.out⟩

theorem less_take (M : List Int) (x y : Int) (a k : Nat) (hk : a ≤ k) (h : M[k]? = some y) : lessL M x a (k + 1) = lessL M x a k + if y < x then 1 else 0 := by
  have hl := (List.getElem?_eq_some_iff.1 h).1
  unfold lessL
  rw [List.take_add_one, h, Option.toList_some, List.drop_append_of_le_length (by rw [List.length_take]; omega), List.countP_append, List.countP_singleton]
  simp

set_option maxHeartbeats 1600000 in
theorem specWaveLess_any (x lo hi : Int) (w : World) (hL : LiesWa w ⟨N, ZA, zc, Z, LA, lc, P⟩) : Calls Try.prog 35 #[WaA.value ⟨N, ZA, zc, Z, LA, lc, P⟩, .int .i64 x, .int .i64 lo, .int .i64 hi] w fun e w' => e = .returned (.int .i64 (wLess N Z (P.map LvA.val) x lo hi)) ∧ Below w.heap.size w w' := by
  have HB0 : Hid (Below w.heap.size w (w.alloc (.cells #[.int .i64 N, .slice ZA Z.length zc, .slice LA P.length lc] 27))) := Lib.hid (by go_grown)
  have HX0 : Hid (Box (w.alloc (.cells #[.int .i64 N, .slice ZA Z.length zc, .slice LA P.length lc] 27)) w.heap.size 27 #[.int .i64 N, .slice ZA Z.length zc, .slice LA P.length lc]) := Lib.hid (Box.made _ _ _)
  have CO := Lib.hid fun (W : World) (hW : Below w.heap.size w W) => l07Span_any N ZA zc Z LA lc P lo hi W (hL.below hW)
  have CL := Lib.hid fun (W : World) (hW : Below w.heap.size w W) hok => l07List_any ⟨N, ZA, zc, Z, LA, lc, P⟩ W (hL.below hW) hok
  unfold WaA.value at *
  simp only at CO CL ⊢
  clear hL
  obtain ⟨v, hv⟩ : ∃ v, wLess N Z (P.map LvA.val) x lo hi = v := ⟨_, rfl⟩
  have HV := Lib.hid hv
  rw [hv]
  clear hv
  go_enter Try.func35, Try.ntmps35
  go_wp2_with fail
  generalize w.alloc (.cells #[.int .i64 N, .slice ZA Z.length zc, .slice LA P.length lc] 27) = W0 at *
  refine (CO.out _ HB0.out).mono ?_
  rintro e w1 ⟨rfl, hb1⟩
  have HB1 := Lib.hid (below_then HB0.out hb1)
  have hx1 := HX0.out.below hb1 HX0.out.lt
  have x0 := hx1.cell 0
  have x1 := hx1.cell 1
  have x2 := hx1.cell 2
  have xl := hx1.lt
  clear hb1 hx1 CO
  by_cases hok : wvOk N Z (P.map LvA.val) = true ∧ (0 ≤ lo ∧ lo ≤ hi ∧ hi ≤ N)
  · rw [hok.1, decide_eq_true hok.2, Bool.true_and]
    obtain ⟨a, rfl⟩ := Int.eq_ofNat_of_zero_le hok.2.1
    obtain ⟨b, rfl⟩ := Int.eq_ofNat_of_zero_le (show 0 ≤ hi by omega)
    obtain ⟨n, rfl⟩ := Int.eq_ofNat_of_zero_le (show 0 ≤ N by omega)
    have hab : a ≤ b := by omega
    have hbn : b ≤ n := by omega
    have hn1000 := (wvOk_n hok.1).2
    have C := Lib.hid (CL.out w1 HB1.out hok.1)
    have hlen := wB_len n (P.map LvA.val)
    rw [Int.toNat_natCast] at hlen
    have HQ : Hid (v = (lessL (wB n (P.map LvA.val)) x a b : Int)) := Lib.hid (by rw [← HV.out]; unfold wLess; rw [if_pos hok, Int.toNat_natCast, Int.toNat_natCast])
    generalize wB n (P.map LvA.val) = M at *
    have Hlen := Lib.hid hlen
    clear hok CL
    go_wp2_with fail
    refine C.out.mono ?_
    rintro e w2 ⟨A, c, rfl, ho, hb2⟩
    have HB2 := Lib.hid (below_then HB1.out hb2)
    have HX := Lib.hid (Lies.of_own ho)
    rw [hlen]
    clear ho hb2 hlen
    go_wp2
    go_loop [10, 11] (fun q t => ∃ k : Nat, a ≤ k ∧ k ≤ b ∧ t = .int .i64 k ∧ q = .int .i64 (lessL M x a k : Nat)) (fun _ t => b - (intOf t).toNat)
    case atStart => exact ⟨a, Nat.le_refl _, hab, rfl, by
      have : lessL M x a a = 0 := by
        unfold lessL
        rw [List.drop_of_length_le (by rw [List.length_take]; omega)]
        rfl
      rw [this]
      rfl⟩
    case round =>
      obtain ⟨k, hak, hk, rfl, rfl⟩ := hrel
      have hle : lessL M x a k ≤ k := by
        unfold lessL
        exact Nat.le_trans List.countP_le_length (by rw [List.length_drop, List.length_take]; omega)
      by_cases hlt : k < b
      · obtain ⟨b1, o, y, hA, hbl, hy, hc⟩ := HX.out.at_ (i := k) (by rw [Hlen.out]; omega)
        subst hA
        have HS := Lib.hid (less_take M x y a k hak hy)
        have k0 : (0 : Int) ≤ (k : Int) := by omega
        have k1 : (k : Int) < (n : Int) := by omega
        obtain ⟨u, hu⟩ : ∃ u, lessL M x a k = u := ⟨_, rfl⟩
        rw [hu] at HS hle ⊢
        clear hy hu
        by_cases hyx : y < x
        · rw [if_pos hyx] at HS
          have he : decide (y < x) = true := by simpa using hyx
          clear hyx
          go_wp2
          go_round
          case rel => exact ⟨k + 1, by omega, by omega, by go_num, by rw [HS.out]; go_num⟩
          case measure => simp [intOf]; omega
        · rw [if_neg hyx] at HS
          have he : decide (y < x) = false := by simpa using hyx
          clear hyx
          go_wp2
          go_round
          case rel => exact ⟨k + 1, by omega, by omega, by go_num, by rw [HS.out]; go_num⟩
          case measure => simp [intOf]; omega
      · obtain rfl : k = b := by omega
        obtain ⟨u, hu⟩ : ∃ u, lessL M x a k = u := ⟨_, rfl⟩
        rw [hu] at HQ ⊢
        clear hu
        go_wp2
        go_ret
        exact ⟨ret_int HQ.out.symm, HB2.out⟩
  · rw [show (wvOk N Z (P.map LvA.val) && decide (0 ≤ lo ∧ lo ≤ hi ∧ hi ≤ N)) = false by
      cases h1 : wvOk N Z (P.map LvA.val)
      · rfl
      · rw [Bool.true_and, decide_eq_false (fun h => hok ⟨h1, h⟩)]]
    have HQ : Hid (v = -1) := Lib.hid (by rw [← HV.out]; unfold wLess; rw [if_neg hok])
    clear hok CL
    go_wp2
    go_ret
    exact ⟨ret_int HQ.out.symm, HB1.out⟩

end

end Go.Proofs.Ytnlpmcgpdaifoaa
