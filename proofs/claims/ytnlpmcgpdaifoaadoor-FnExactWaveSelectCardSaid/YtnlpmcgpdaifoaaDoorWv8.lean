/- The specification's list of a wave's numbers. -/
import Derived.Test.YtnlpmcgpdaifoaaDoorWvVal
import Derived.Test.YtnlpmcgpdaifoaaDoorWvApp
import Derived.Test.YtnlpmcgpdaifoaaDoorAppend2
import Derived.Test.YtnlpmcgpdaifoaaDoorJoin2
namespace Go.Proofs.YtnlpmcgpdaifoaaDoor
open Go.RowKit
set_option maxRecDepth 100000

theorem Tryd.infoInts : (Tryd.prog.info? 24).map (fun i => (i.zero, i.size, i.bytes)) = some (some (.slice none 0 0), 1, 24) := by kernel_rfl

theorem cnt_min_yes (L : List Nat) (b : Int) (j m : Nat) (hj : j < m) (h : (bitN L j : Int) = b) : cnt L b (min (j + 1) m) = cnt L b (min j m) + 1 := by
  rw [Nat.min_eq_left (by omega), Nat.min_eq_left (by omega), cnt_yes L b j h]
theorem cnt_min_no (L : List Nat) (b : Int) (j m : Nat) (hj : j < m) (h : (bitN L j : Int) ≠ b) : cnt L b (min (j + 1) m) = cnt L b (min j m) := by
  rw [Nat.min_eq_left (by omega), Nat.min_eq_left (by omega), cnt_no L b j h]
theorem cnt_min_past (L : List Nat) (b : Int) (j m : Nat) (hj : ¬ j < m) : cnt L b (min (j + 1) m) = cnt L b (min j m) := by
  rw [Nat.min_eq_right (by omega), Nat.min_eq_right (by omega)]

set_option maxHeartbeats 6400000 in
theorem l07List_in (n : Nat) (ZA : Option Addr) (zc l : Nat) (Z : List Int) (LA : Option Addr) (lc : Nat) (P : List LvA) (w : World) (hL : LiesWa w ⟨n, ZA, zc, Z, LA, lc, P⟩) (hok : wvOk n Z (P.map LvA.val) = true) (HP9 : Hid (P.length = 9)) :
    Calls Tryd.prog 59 #[.agg #[.int .i64 n, .slice ZA l zc, .slice LA 9 lc]] w (NewI w (listW n (lvs P))) := by
  have hn : n ≤ 1000 := by have := wvOk_n hok; omega
  have HL := Lib.hid hL
  have HLev : Hid (∀ (k : Nat) (p : LvA), P[k]? = some p → p.K = (n : Int) ∧ p.L.length = (n + 63) / 64) := Lib.hid fun k p hp => by
    obtain ⟨h1, h2, _⟩ := wvOk_lev hok hp
    obtain ⟨m, h3, _, h4, _⟩ := okB_nat h2
    obtain rfl : n = m := by omega
    exact ⟨h1, h4⟩
  have HL9 : Hid ((lvs P).length = 9) := Lib.hid (by rw [lvs_len, HP9.out])
  clear hL hok
  obtain ⟨Bs, hBs⟩ : ∃ Bs, Bs = (lvs P).map (bitsOf n) := ⟨_, rfl⟩
  have HBs := Lib.hid hBs
  clear hBs
  go_enter Tryd.func59, Tryd.ntmps59
  go_wp2
  have HW0 : Hid (Below w.heap.size w (w.alloc (.cells #[.int .i64 n, .slice ZA l zc, .slice LA 9 lc] 28))) := Lib.hid ((Below.refl _ _).alloc (Nat.le_refl _) _)
  have HX0 : Hid (Box (w.alloc (.cells #[.int .i64 n, .slice ZA l zc, .slice LA 9 lc] 28)) w.heap.size 28 #[.int .i64 n, .slice ZA l zc, .slice LA 9 lc]) := Lib.hid (Box.made _ _ _)
  have hs0 : (w.alloc (.cells #[.int .i64 n, .slice ZA l zc, .slice LA 9 lc] 28)).heap.size = w.heap.size + 1 := World.size_alloc _ _
  have Hs0 := Lib.hid hs0
  have HI0 : Hid (LL 3 24 (w.alloc (.cells #[.int .i64 n, .slice ZA l zc, .slice LA 9 lc] 28)) (((w.alloc (.cells #[.int .i64 n, .slice ZA l zc, .slice LA 9 lc] 28)).alloc (.cells #[] 3)).alloc (.cells #[] 24)) (.slice (some ⟨w.heap.size + 1, 0, none⟩) 0 0) [] (.slice (some ⟨w.heap.size + 1 + 1, 0, none⟩) 0 0) [] []) := Lib.hid (by
    have e1 := World.ownsRow_lit (base := (w.alloc (.cells #[.int .i64 n, .slice ZA l zc, .slice LA 9 lc] 28)).heap.size) (e := 3) (size := 1) (w.alloc (.cells #[.int .i64 n, .slice ZA l zc, .slice LA 9 lc] 28)) #[] 0 (Nat.le_refl _) (by decide) rfl
    have e2 := World.ownsRow_lit (base := (w.alloc (.cells #[.int .i64 n, .slice ZA l zc, .slice LA 9 lc] 28)).heap.size) (e := 24) (size := 1) ((w.alloc (.cells #[.int .i64 n, .slice ZA l zc, .slice LA 9 lc] 28)).alloc (.cells #[] 3)) #[] 0 (by simp only [World.size_alloc]; omega) (by decide) rfl
    rw [World.size_alloc (w.alloc _), hs0] at e2
    rw [hs0] at e1
    refine ⟨by go_grown, by rw [hs0]; exact e1.alloc _, by rw [hs0]; exact e2, rfl, fun j q B h => by simp at h, fun j q k h => by simp at h⟩)
  clear hs0
  generalize w.alloc (.cells #[.int .i64 n, .slice ZA l zc, .slice LA 9 lc] 28) = W0 at *
  go_loopw [4, 5] (fun s i wr => ∃ (k : Nat) (A : Option Addr) (c : Nat) (Q : List Value), k ≤ 9 ∧ i = .int .i64 k ∧ s = .slice A k c ∧ Q.length = k ∧ Hid (LL 3 24 W0 wr (.slice (some ⟨w.heap.size + 1, 0, none⟩) 0 0) [] (.slice A k c) Q (Bs.take k))) (fun _ i _ => 9 - (intOf i).toNat)
  case atStart => exact ⟨0, _, _, [], Nat.zero_le _, rfl, rfl, rfl, HI0⟩
  case round =>
    obtain ⟨k, A, c, Q, hk, rfl, rfl, hQ, HI⟩ := hrel
    clear HI0
    have hbox := HX0.out.below HI.out.below HX0.out.lt
    have x0 := hbox.cell 0
    have x2 := hbox.cell 2
    have hbl := hbox.lt
    by_cases hlt : k < 9
    · obtain ⟨p, hp⟩ : ∃ p, P[k]? = some p := ⟨P[k]'(by rw [HP9.out]; exact hlt), List.getElem?_eq_getElem _⟩
      obtain ⟨⟨b, o, hLA, hbl2, hc0, hc1⟩, hpl, hpt, hpb⟩ := (HL.out.lev.below (below_then HW0.out HI.out.below)) k p hp
      simp only at hLA hc1
      subst hLA
      obtain ⟨hK, hpL⟩ := HLev.out k p hp
      rw [hK] at hc0
      unfold LvA.body at hc1
      have CL := Lib.hid (list_new n p.A p.c p.L wr hpl hpL (by omega) hpb)
      have HTk : Hid (Bs.take (k + 1) = Bs.take k ++ [bitsOf n p.L]) := Lib.hid (by
        have hg : Bs[k]? = some (bitsOf n p.L) := by rw [HBs.out, List.getElem?_map, lvs_get hp]; rfl
        rw [List.take_add_one, hg]
        rfl)
      have k9 : (k : Int) < 9 := by omega
      have HQ := Lib.hid hQ
      clear hpl hpt hpb hp hK hpL hbox hQ
      go_wp2_with fail
      refine CL.out.mono ?_
      rintro e w1 ⟨A1, c1, rfl, ho1, hb1⟩
      have HI1 := Lib.hid (HI.out.more hb1)
      have HO1 := Lib.hid (show w1.ownsRow wr.heap.size 3 1 (.slice A1 (bitsOf n p.L).length c1) (bitsOf n p.L).length ((bitsOf n p.L).map I) by rw [bitsOf_len]; exact ho1)
      have HSz : Hid (W0.heap.size ≤ wr.heap.size ∧ w.heap.size + 1 < wr.heap.size) := Lib.hid ⟨HI.out.below.size, by
        have := HI.out.out.lt (w.heap.size + 1) rfl
        exact this.2⟩
      clear ho1 hb1 hc0 hc1 x0 x2 hbl CL HI
      go_wp2_with (at_builtin; refine wpList_push_own rfl _ _ 89 24 rfl Tryd.underlying89 Tryd.infoInts rfl (by omega) W0.heap.size _ _ k Q rfl (by have h := HI1.out.lev; rw [HQ.out] at h; exact h) _ rfl rfl HI1.out.below.size (by omega) ?_)
      intro A2 c2 w2 ho2 hg2 hm2
      have HN := Lib.hid (LL.add (ti := 3) (tl := 24) (vl' := .slice A2 (k + 1) c2) (by decide) HI1.out HO1.out HSz.out.1 (fun k' hk' => by
        obtain rfl : w.heap.size + 1 = k' := by injection hk'
        exact HSz.out.2) (by rw [HQ.out, bitsOf_len]; exact ho2) hg2)
      rw [← HTk.out, bitsOf_len] at HN
      have HQ2 : Hid ((Q ++ [Value.slice A1 n c1]).length = k + 1) := Lib.hid (by rw [List.length_append, HQ.out]; rfl)
      clear ho2 hg2 hm2 HI1 HO1
      go_wp2
      go_roundw
      case rel => exact ⟨k + 1, A2, c2, _, by omega, by go_num, rfl, HQ2.out, HN⟩
      case measure => simp [intOf]; omega
    · obtain ⟨K, hK⟩ : ∃ K, K = k := ⟨_, rfl⟩
      subst hK
      have hK9 : K = 9 := by omega
      have HK9 := Lib.hid hK9
      have HQ := Lib.hid hQ
      have HIF : Hid (LL 3 24 W0 wr (.slice (some ⟨w.heap.size + 1, 0, none⟩) 0 0) [] (.slice A K c) Q Bs) := Lib.hid (by
        have h := HI.out
        rw [List.take_of_length_le (by rw [HBs.out, List.length_map, HL9.out]; exact Nat.le_of_eq hK9.symm)] at h
        exact h)
      clear HI x0 x2 hbox hbl hQ
      clear hK9
      have hlt0 : ¬ ((K : Int) < 9) := by have := HK9.out; omega
      go_wp2
      go_loopw [3, 6] (fun s i W => ∃ (m : Nat) (vA : Option Addr) (vc : Nat), m ≤ n ∧ i = .int .i64 m ∧ s = .slice vA m vc ∧ Hid (LL 3 24 W0 W (.slice vA m vc) ((listW n (lvs P)).take m) (.slice A K c) Q Bs)) (fun _ i _ => n - (intOf i).toNat)
      case atStart => exact ⟨0, _, _, Nat.zero_le _, rfl, rfl, HIF⟩
      case round =>
        obtain ⟨m, vA, vc, hm, rfl, rfl, HI⟩ := hrel
        clear HIF
        have hbox := HX0.out.below HI.out.below HX0.out.lt
        have x0 := hbox.cell 0
        have hbl := hbox.lt
        clear hbox
        by_cases hlt2 : m < n
        · have HRd : Hid (∀ (q : Nat), q < 9 → ∃ (L : List Nat) (b o : Nat) (A1 : Option Addr) (c1 : Nat), (lvs P)[q]? = some L ∧ A = some ⟨b, o, none⟩ ∧ b < wr.heap.size ∧ wr.cell? ⟨b, o + q, none⟩ = some (.slice A1 n c1) ∧ ∀ j, j < n → ∃ b1 o1, A1 = some ⟨b1, o1, none⟩ ∧ wr.cell? ⟨b1, o1 + j, none⟩ = some (I (bitN L j))) := Lib.hid fun q hq => by
            obtain ⟨L, hLq⟩ : ∃ L, (lvs P)[q]? = some L := ⟨(lvs P)[q]'(by rw [HL9.out]; exact hq), List.getElem?_eq_getElem _⟩
            obtain ⟨v, hv⟩ : ∃ v, Q[q]? = some v := ⟨Q[q]'(by rw [HQ.out, HK9.out]; exact hq), List.getElem?_eq_getElem _⟩
            have hB : Bs[q]? = some (bitsOf n L) := by rw [HBs.out, List.getElem?_map, hLq]; rfl
            obtain ⟨⟨A1, c1, rfl⟩, ho⟩ := HI.out.rows q v _ hv hB
            rw [bitsOf_len] at hv ho
            have hlev := HI.out.lev
            rw [HQ.out] at hlev
            have hlies : Lies wr (fun x : Value => x) A Q := Lies.of_own (n := K) (c := c) (by rw [List.map_id']; exact hlev)
            obtain ⟨b, o, hA, hb, hcell⟩ := hlies q _ hv
            refine ⟨L, b, o, A1, c1, hLq, hA, hb, hcell, fun j hj => ?_⟩
            obtain ⟨b1, o1, hA1, _, hc1⟩ := (Lies.of_own ho) j _ (bitsOf_get n L j hj)
            exact ⟨b1, o1, hA1, hc1⟩
          have HTk : Hid ((listW n (lvs P)).take (m + 1) = (listW n (lvs P)).take m ++ [(numW n (lvs P) m : Int)]) := Lib.hid (by rw [List.take_add_one, listW_get _ _ _ hlt2]; rfl)
          have HLen : Hid (((listW n (lvs P)).take m).length = m) := Lib.hid (by rw [List.length_take, listW_len]; omega)
          go_wp2
          go_loop [7, 8, 9] (fun s x j => ∃ q y k : Nat, k ≤ 9 ∧ j = .int .i64 k ∧ s = .int .i64 q ∧ x = .int .i64 y ∧ q < n ∧ y < 2 ^ k ∧ Hid (y * 2 ^ (9 - k) + numW n ((lvs P).drop k) q = numW n (lvs P) m)) (fun _ _ j => 9 - (intOf j).toNat)
          case atStart => exact ⟨m, 0, 0, Nat.zero_le _, rfl, rfl, rfl, hlt2, by decide, Lib.hid (by rw [List.drop_zero]; omega)⟩
          case round =>
            obtain ⟨q, y, k, hk, rfl, rfl, rfl, hq, hy, HV⟩ := hrel
            by_cases hlt3 : k < 9
            · obtain ⟨L, b, o, A1, c1, hLk, hA, hb, hcell, hel⟩ := HRd.out k hlt3
              subst hA
              have HEl := Lib.hid hel
              obtain ⟨b1, o1, hA1, hcq⟩ := hel q hq
              subst hA1
              have hst := num_step HL9.out hLk n y q
              have hb2 := bitN_lt L q
              have hdl := dn_lt n L q hq
              obtain ⟨e, he⟩ : ∃ e, bitN L q = e := ⟨_, rfl⟩
              rw [he] at hcq hb2 hst hdl
              have k9 : (k : Int) < 9 := by omega
              have kK : (k : Int) < (K : Int) := by rw [HK9.out]; omega
              have k0 : (0 : Int) ≤ (k : Int) := by omega
              have q0 : (q : Int) < (n : Int) := by omega
              have hzn := cnt_le L 0 n
              have hy9 : y < 512 := Nat.lt_of_lt_of_le hy (Nat.pow_le_pow_right (by omega) hk)
              have hcs := cnt_sum L n
              have hcs2 := cnt_sum L q
              clear hel he hLk
              have HSt := Lib.hid hst
              have HYn : Hid (2 * y + e < 2 ^ (k + 1)) := Lib.hid (by rw [Nat.pow_succ]; omega)
              clear hst hy
              go_wp2
              clear hcq
              go_loop [11, 12, 13] (fun u v j => ∃ t : Nat, t ≤ n ∧ j = .int .i64 t ∧ u = .int .i64 (cnt L e (min t q)) ∧ v = .int .i64 (cnt L 0 t)) (fun _ _ j => n - (intOf j).toNat)
              case atStart => exact ⟨0, Nat.zero_le _, rfl, by rw [Nat.zero_min]; rfl, rfl⟩
              case round =>
                obtain ⟨t, ht, rfl, rfl, rfl⟩ := hrel
                have hct := cnt_le L 0 t
                have hcm := cnt_le L e (min t q)
                have hmq : min t q ≤ n := by omega
                by_cases hlt4 : t < n
                · obtain ⟨b2, o2, hA2, hct1⟩ := HEl.out t hlt4
                  injection hA2 with hA2
                  injection hA2 with hA2 hA3
                  subst hA2 hA3
                  have tn : (t : Int) < (n : Int) := by omega
                  have H0y := Lib.hid (cnt_yes L 0 t)
                  have H0n := Lib.hid (cnt_no L 0 t)
                  have H1y := Lib.hid (cnt_min_yes L e t q)
                  have H1n := Lib.hid (cnt_min_no L e t q)
                  have H1p := Lib.hid (cnt_min_past L e t q)
                  obtain ⟨x, hx⟩ : ∃ x, bitN L t = x := ⟨_, rfl⟩
                  rw [hx] at hct1 H0y H0n H1y H1n
                  have hx2 : x < 2 := by rw [← hx]; exact bitN_lt L t
                  obtain ⟨u1, hu1⟩ : ∃ u1, cnt L e (min t q) = u1 := ⟨_, rfl⟩
                  obtain ⟨v1, hv1⟩ : ∃ v1, cnt L 0 t = v1 := ⟨_, rfl⟩
                  rw [hu1] at H1y H1n H1p hcm ⊢
                  rw [hv1] at H0y H0n hct ⊢
                  clear hx hu1 hv1
                  by_cases hx0 : x = 0
                  · have z0 : ((x : Int) == 0) = true := by rw [beq_iff_eq]; omega
                    have HZ : Hid (cnt L 0 (t + 1) = v1 + 1) := Lib.hid (H0y.out (by omega))
                    clear H0y H0n hx0
                    by_cases htq : t < q
                    · have tq : decide ((t : Int) < (q : Int)) = true := by simp; omega
                      have tqn : decide (t < q) = true := by simp; omega
                      by_cases hxe : x = e
                      · have te : ((x : Int) == (e : Int)) = true := by rw [beq_iff_eq]; omega
                        have HU := Lib.hid (H1y.out htq (by omega))
                        clear hxe
                        clear H1y H1n H1p htq
                        go_wp2
                        go_round
                        case rel => exact ⟨t + 1, by omega, by go_num, by rw [HU.out]; go_num, by rw [HZ.out]; go_num⟩
                        case measure => simp [intOf]; omega
                      · have te : ((x : Int) == (e : Int)) = false := by rw [beq_eq_false_iff_ne]; omega
                        have HU := Lib.hid (H1n.out htq (by omega))
                        clear hxe
                        clear H1y H1n H1p htq
                        go_wp2
                        go_round
                        case rel => exact ⟨t + 1, by omega, by go_num, by rw [HU.out], by rw [HZ.out]; go_num⟩
                        case measure => simp [intOf]; omega
                    · have tq : decide ((t : Int) < (q : Int)) = false := by simp; omega
                      have tqn : decide (t < q) = false := by simp; omega
                      have HU := Lib.hid (H1p.out htq)
                      clear H1y H1n H1p htq
                      go_wp2
                      go_round
                      case rel => exact ⟨t + 1, by omega, by go_num, by rw [HU.out], by rw [HZ.out]; go_num⟩
                      case measure => simp [intOf]; omega
                  · have z0 : ((x : Int) == 0) = false := by rw [beq_eq_false_iff_ne]; omega
                    have HZ : Hid (cnt L 0 (t + 1) = v1) := Lib.hid (H0n.out (by omega))
                    clear H0y H0n hx0
                    by_cases htq : t < q
                    · have tq : decide ((t : Int) < (q : Int)) = true := by simp; omega
                      have tqn : decide (t < q) = true := by simp; omega
                      by_cases hxe : x = e
                      · have te : ((x : Int) == (e : Int)) = true := by rw [beq_iff_eq]; omega
                        have HU := Lib.hid (H1y.out htq (by omega))
                        clear hxe
                        clear H1y H1n H1p htq
                        go_wp2
                        go_round
                        case rel => exact ⟨t + 1, by omega, by go_num, by rw [HU.out]; go_num, by rw [HZ.out]⟩
                        case measure => simp [intOf]; omega
                      · have te : ((x : Int) == (e : Int)) = false := by rw [beq_eq_false_iff_ne]; omega
                        have HU := Lib.hid (H1n.out htq (by omega))
                        clear hxe
                        clear H1y H1n H1p htq
                        go_wp2
                        go_round
                        case rel => exact ⟨t + 1, by omega, by go_num, by rw [HU.out], by rw [HZ.out]⟩
                        case measure => simp [intOf]; omega
                    · have tq : decide ((t : Int) < (q : Int)) = false := by simp; omega
                      have tqn : decide (t < q) = false := by simp; omega
                      have HU := Lib.hid (H1p.out htq)
                      clear H1y H1n H1p htq
                      go_wp2
                      go_round
                      case rel => exact ⟨t + 1, by omega, by go_num, by rw [HU.out], by rw [HZ.out]⟩
                      case measure => simp [intOf]; omega
                · obtain rfl : t = n := by omega
                  rw [Nat.min_eq_right (by omega)] at hcm ⊢
                  obtain ⟨y2, hy2⟩ : ∃ y2, 2 * y + e = y2 := ⟨_, rfl⟩
                  rw [hy2] at HSt HYn
                  have e1 : IntKind.i64.wrap (2 * (y : Int)) = 2 * (y : Int) := IntWalk.i64_in _ (by omega)
                  have e2 : IntKind.i64.wrap (2 * (y : Int) + (e : Int)) = (y2 : Int) := by rw [IntWalk.i64_in _ (by omega)]; omega
                  have e3 : 2 * (y : Int) + (e : Int) = (y2 : Int) := by omega
                  have hd : dn t L e q = e * cnt L 0 t + cnt L (e : Int) q := rfl
                  obtain ⟨d, hdd⟩ : ∃ d, dn t L e q = d := ⟨_, rfl⟩
                  rw [hdd] at HSt hdl hd
                  have HV2 : Hid (y2 * 2 ^ (9 - (k + 1)) + numW t ((lvs P).drop (k + 1)) d = numW t (lvs P) m) := Lib.hid (by rw [← HV.out, HSt.out, show 9 - (k + 1) = 8 - k by omega])
                  obtain ⟨u1, hu1⟩ : ∃ u1, cnt L (e : Int) q = u1 := ⟨_, rfl⟩
                  obtain ⟨v1, hv1⟩ : ∃ v1, cnt L 0 t = v1 := ⟨_, rfl⟩
                  rw [hu1] at hcm hd ⊢
                  rw [hv1] at hzn hd ⊢
                  clear HV HSt hdd hu1 hv1 hy2 hct hmq hcs hcs2
                  by_cases he1 : e = 1
                  · have HD : Hid (d = v1 + u1) := Lib.hid (by rw [hd, he1]; omega)
                    have z1 : ((e : Int) == 1) = true := by rw [beq_iff_eq]; omega
                    have e4 : IntKind.i64.wrap ((v1 : Int) + (u1 : Int)) = (v1 : Int) + (u1 : Int) := IntWalk.i64_in _ (by omega)
                    clear hd he1
                    go_wp2
                    go_round
                    case rel => first | exact ⟨d, y2, k + 1, by omega, by go_num, by rw [HD.out]; go_num, rfl, hdl, HYn.out, HV2⟩ | exact ⟨_, _, _, ⟨d, y2, k + 1, by omega, by go_num, by rw [HD.out]; go_num, rfl, hdl, HYn.out, HV2⟩, rfl, rfl, rfl⟩
                    case measure => simp [intOf]; omega
                  · have HD : Hid (d = u1) := Lib.hid (by rw [hd, show e = 0 by omega]; omega)
                    have z1 : ((e : Int) == 1) = false := by rw [beq_eq_false_iff_ne]; omega
                    clear hd he1
                    go_wp2
                    go_round
                    case rel => first | exact ⟨d, y2, k + 1, by omega, by go_num, by rw [HD.out], rfl, hdl, HYn.out, HV2⟩ | exact ⟨_, _, _, ⟨d, y2, k + 1, by omega, by go_num, by rw [HD.out], rfl, hdl, HYn.out, HV2⟩, rfl, rfl, rfl⟩
                    case measure => simp [intOf]; omega
            · obtain rfl : k = 9 := by omega
              have HV2 : Hid (y = numW n (lvs P) m) := Lib.hid (by rw [← HV.out, lv_end HL9.out]; simp [numW])
              rw [← HV2.out] at HTk
              clear HV hy
              go_wp2_with (at_builtin; refine wpList_push_own rfl _ _ 24 3 rfl Tryd.underlying24 Tryd.infoInt rfl (by omega) W0.heap.size _ _ m (((listW n (lvs P)).take m).map I) rfl (by have h := HI.out.out; rw [HLen.out] at h; exact h) _ rfl rfl HI.out.below.size (by omega) ?_)
              intro A2 c2 w2 ho2 hg2 hm2
              have HN := Lib.hid (LL.push (ti := 3) (tl := 24) (vo' := .slice A2 (m + 1) c2) (y := (y : Int)) (by decide) HI.out (by rw [HLen.out, List.map_take]; exact ho2) hg2 hm2)
              rw [← HTk.out] at HN
              clear ho2 hg2 hm2 HI
              go_wp2
              go_roundw
              case rel => first | exact ⟨m + 1, A2, c2, by omega, by go_num, rfl, HN⟩ | exact ⟨_, _, ⟨m + 1, A2, c2, by omega, by go_num, rfl, HN⟩, rfl, rfl⟩
              case measure => simp [intOf]; omega
        · obtain rfl : m = n := by omega
          have HF : Hid (NewI w (listW m (lvs P)) (.returned (.slice vA m vc)) wr) := Lib.hid (by
            have h := HI.out.out
            rw [List.take_of_length_le (by rw [listW_len]; omega), listW_len] at h
            exact newI_own (own_mono h HW0.out.size) (listW_len _ _) (below_then HW0.out HI.out.below))
          clear HI
          go_wp2
          go_ret
          exact HF.out

theorem l07List_any (a : WaA) (w : World) (hL : LiesWa w a) (hok : a.ok = true) : Calls Tryd.prog 59 #[a.value] w (NewI w (wB a.N (a.P.map LvA.val))) := by
  obtain ⟨N, ZA, zc, Z, LA, lc, P⟩ := a
  unfold WaA.ok at hok
  simp only at hok
  obtain ⟨n, rfl⟩ := Int.eq_ofNat_of_zero_le (wvOk_n hok).1
  have h9 : P.length = 9 := by have := ((wvOk_iff _ _ _).1 hok).1.2.2.1; simpa using this
  have c := l07List_in n ZA zc Z.length Z LA lc P w hL hok (Lib.hid h9)
  unfold WaA.value wB
  simp only
  rw [wLs_val, h9]
  exact c

end Go.Proofs.YtnlpmcgpdaifoaaDoor
