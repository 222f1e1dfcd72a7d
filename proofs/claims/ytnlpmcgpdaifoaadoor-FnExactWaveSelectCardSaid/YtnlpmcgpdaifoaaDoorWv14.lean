/- WaveSelect of the specification. -/
import Derived.Test.YtnlpmcgpdaifoaaDoorWv10
import Derived.Test.YtnlpmcgpdaifoaaDoorWv13
namespace Go.Proofs.YtnlpmcgpdaifoaaDoor
open Go.RowKit
set_option maxRecDepth 100000

theorem wSel_list (N : Int) (Z : List Int) (V : List (Int × List Nat)) (x k : Int) : wSel N Z V x k = selL (wList N Z V) x k := by
  unfold wSel wList
  split
  · rfl
  · unfold selL
    split <;> rfl
theorem dec_step (D : Int) (h1 : -9223372036854775808 ≤ D) (h2 : D ≤ 9223372036854775807) : ∃ D', IntKind.i64.wrap (D - 1) = D' ∧ -9223372036854775808 ≤ D' ∧ D' ≤ 9223372036854775807 ∧ (D' = D - 1 ∨ D' = D - 1 + 18446744073709551616) := by
  by_cases h : D = -9223372036854775808
  · subst h
    exact ⟨9223372036854775807, by decide +kernel, by decide, by decide, .inr (by decide)⟩
  · exact ⟨D - 1, IntWalk.i64_in _ (by omega), by omega, by omega, .inl rfl⟩

section
variable (N : Int) (ZA : Option Addr) (zc : Nat) (Z : List Int) (LA : Option Addr) (lc : Nat) (P : List LvA)

set_option maxHeartbeats 1600000 in
theorem specWaveSelect_any (x K : Int) (w : World) (hL : LiesWa w ⟨N, ZA, zc, Z, LA, lc, P⟩) (hk1 : -9223372036854775808 ≤ K) (hk2 : K ≤ 9223372036854775807) : Calls Tryd.prog 18 #[WaA.value ⟨N, ZA, zc, Z, LA, lc, P⟩, .int .i64 x, .int .i64 K] w fun e w' => e = .returned (.int .i64 (wSel N Z (P.map LvA.val) x K)) ∧ Below w.heap.size w w' := by
  have HB0 : Hid (Below w.heap.size w (w.alloc (.cells #[.int .i64 N, .slice ZA Z.length zc, .slice LA P.length lc] 28))) := Lib.hid (by go_grown)
  have CL := Lib.hid (specWaveList_any N ZA zc Z LA lc P _ (hL.below HB0.out))
  have hlen := wList_len N Z (P.map LvA.val)
  unfold WaA.value at *
  simp only at CL ⊢
  clear hL
  obtain ⟨v, hv⟩ : ∃ v, wSel N Z (P.map LvA.val) x K = v := ⟨_, rfl⟩
  rw [hv]
  rw [wSel_list] at hv
  have HV := Lib.hid hv
  clear hv
  generalize wList N Z (P.map LvA.val) = M at *
  obtain ⟨n, hn⟩ : ∃ n, M.length = n := ⟨_, rfl⟩
  rw [hn] at hlen
  go_enter Tryd.func18, Tryd.ntmps18
  go_wp2_with fail
  generalize w.alloc (.cells #[.int .i64 N, .slice ZA Z.length zc, .slice LA P.length lc] 28) = W0 at *
  refine CL.out.mono ?_
  rintro e w2 ⟨A, c, rfl, ho, hb2⟩
  have HB2 := Lib.hid (below_then HB0.out hb2)
  have HX := Lib.hid (Lies.of_own ho)
  rw [hn]
  have Hlen := Lib.hid hn
  clear ho hb2 hn CL HB0
  go_wp2
  go_loop [2, 8] (fun q t => ∃ (k : Nat) (D : Int), k ≤ n ∧ t = .int .i64 k ∧ q = .int .i64 D ∧ -9223372036854775808 ≤ D ∧ D ≤ 9223372036854775807 ∧ Hid ((D = K - (rankL M x k : Int) ∨ D = K - (rankL M x k : Int) + 18446744073709551616) ∧ (0 ≤ K → (rankL M x k : Int) ≤ K))) (fun _ t => n - (intOf t).toNat)
  case atStart => exact ⟨0, K, Nat.zero_le _, rfl, rfl, hk1, hk2, Lib.hid ⟨.inl (by simp [rankL]), fun h => by simp [rankL]; exact h⟩⟩
  case round =>
    obtain ⟨k, D, hk, rfl, rfl, d1, d2, HD⟩ := hrel
    by_cases hlt : k < n
    · obtain ⟨b, o, y, hA, hbl, hy, hc⟩ := HX.out.at_ (i := k) (by rw [Hlen.out]; omega)
      subst hA
      have HS := Lib.hid (rankL_step M x y k hy)
      have HY := Lib.hid hy
      have hle : rankL M x k ≤ k := by unfold rankL; exact Nat.le_trans List.count_le_length (by rw [List.length_take]; omega)
      have k0 : (0 : Int) ≤ (k : Int) := by omega
      have k1 : (k : Int) < (n : Int) := by omega
      obtain ⟨u, hu⟩ : ∃ u, rankL M x k = u := ⟨_, rfl⟩
      rw [hu] at HS hle HD
      have HU := Lib.hid hu
      clear hy hu
      by_cases hyx : y = x
      · have he : (y == x) = true := by simpa using hyx
        rw [if_pos hyx] at HS
        by_cases hD0 : D = 0
        · have hd : (D == 0) = true := by simpa using hD0
          have HQ : Hid (v = (k : Int)) := Lib.hid (by
            have hKu : K = (u : Int) := by
              have := HD.out.1
              omega
            rw [← HV.out, hKu, ← HU.out]
            exact selL_some M x k (by rw [HY.out, hyx]))
          clear hD0 hyx HD
          go_wp2
          go_ret
          exact ⟨ret_int HQ.out.symm, HB2.out⟩
        · have hd : (D == 0) = false := by simpa using hD0
          obtain ⟨D', hD', e1, e2, e3⟩ := dec_step D d1 d2
          have HD2 : Hid ((D' = K - (rankL M x (k + 1) : Int) ∨ D' = K - (rankL M x (k + 1) : Int) + 18446744073709551616) ∧ (0 ≤ K → (rankL M x (k + 1) : Int) ≤ K)) := Lib.hid (by
            rw [HS.out]
            have := HD.out
            constructor
            · omega
            · intro h; omega)
          clear hD0 hyx HD e3
          go_wp2
          go_round
          case rel => exact ⟨k + 1, D', by omega, by go_num, rfl, e1, e2, HD2⟩
          case measure => simp [intOf]; omega
      · have he : (y == x) = false := by simpa using hyx
        rw [if_neg hyx] at HS
        have HD2 : Hid ((D = K - (rankL M x (k + 1) : Int) ∨ D = K - (rankL M x (k + 1) : Int) + 18446744073709551616) ∧ (0 ≤ K → (rankL M x (k + 1) : Int) ≤ K)) := Lib.hid (by
          rw [HS.out]
          exact HD.out)
        clear hyx HD
        go_wp2
        go_round
        case rel => exact ⟨k + 1, D, by omega, by go_num, rfl, d1, d2, HD2⟩
        case measure => simp [intOf]; omega
    · obtain rfl : k = n := by omega
      have HQ : Hid (v = -1) := Lib.hid (by
        rw [← HV.out]
        by_cases h0 : K < 0
        · exact selL_neg _ _ _ h0
        · obtain ⟨j, rfl⟩ := Int.eq_ofNat_of_zero_le (show 0 ≤ K by omega)
          refine selL_none _ _ _ ?_
          have := HD.out.2 (by omega)
          rw [← rankL_all, Hlen.out]
          omega)
      clear HD
      go_wp2
      go_ret
      exact ⟨ret_int HQ.out.symm, HB2.out⟩

end

end Go.Proofs.YtnlpmcgpdaifoaaDoor
