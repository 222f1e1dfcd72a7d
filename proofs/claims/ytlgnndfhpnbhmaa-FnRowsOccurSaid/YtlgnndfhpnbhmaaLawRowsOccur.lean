/- The law FnRowsOccur walked. -/
import Derived.Test.YtlgnndfhpnbhmaaSfO1
import Derived.Test.YtlgnndfhpnbhmaaSf5
import Derived.Test.YtlgnndfhpnbhmaaBytesNew
import Derived.Test.YtlgnndfhpnbhmaaScene4
namespace Go.Proofs.Ytlgnndfhpnbhmaa
open Go.RowKit
set_option maxRecDepth 100000

set_option maxHeartbeats 400000 in
theorem lawRowsOccur_big (A : Option Addr) (n c : Nat) (w : World) (h : 1048576 < n) :
    Calls Try.prog 5 #[.slice A n c] w fun e w' => e = .returned (.bool true) ∧ Below w.heap.size w w' := by
  have C := Lib.hid (big_any A n c w)
  rw [decide_eq_true h] at C
  go_enter Try.func5, Try.ntmps5
  go_wp2_with fail
  refine C.out.mono ?_
  rintro e w1 ⟨rfl, rfl⟩
  go_wp2
  go_ret
  exact ⟨rfl, Below.refl _ _⟩

set_option maxHeartbeats 8000000 in
theorem lawRowsOccur (A : Option Addr) (c : Nat) (D : List Nat) (w : World) (hD : Lies w B8 A D) (hw : ∀ x ∈ D, x < 2 ^ 8) (hl : D.length ≤ 1048576) :
    Calls Try.prog 5 #[.slice A D.length c] w fun e w' => e = .returned (.bool true) ∧ Below w.heap.size w w' := by
  have C := Lib.hid (big_any A D.length c w)
  rw [decide_eq_false (by omega)] at C
  have HD := Lib.hid hD
  have HW := Lib.hid hw
  clear hD hw
  go_enter Try.func5, Try.ntmps5
  go_wp2_with fail
  refine C.out.mono ?_
  rintro e w0 ⟨rfl, rfl⟩
  go_wp2_with fail
  refine (drawRowsOf_any A c D w HD.out HW.out hl).mono ?_
  rintro e w1 ⟨At, ct, T, Ap, cp, P, rfl, hT, hP, hT8, hP8, hoT, hoP, hb⟩
  have HT1 : Hid (Lies w1 B8 At T) := Lib.hid (Lies.of_own hoT)
  have HP1 : Hid (Lies w1 B8 Ap P) := Lib.hid (Lies.of_own hoP)
  have HTd := Lib.hid (own_tidy hoT)
  have HPd := Lib.hid (own_tidy hoP)
  have HTc := Lib.hid (row_cap hoT).1
  have HB1 := Lib.hid hb
  have HT8 := Lib.hid hT8
  have HP8 := Lib.hid hP8
  clear hoT hoP hb hT8 hP8 C
  go_wp2_with fail
  refine (bytesOf_new At ct T w1 HT1.out HTd.out (by omega)).mono ?_
  rintro e w2 ⟨Ab, cb, rfl, ho2, hb2⟩
  have HT2 : Hid (Lies w2 B8 Ab T) := Lib.hid (Lies.of_own ho2)
  have HT2d := Lib.hid (own_tidy ho2)
  have HT2c := Lib.hid (row_cap ho2).1
  have HB2 := Lib.hid hb2
  clear ho2 hb2
  go_wp2_with fail
  refine (bytesOf_new Ap cp P w2 (HP1.out.below HB2.out) HPd.out (by omega)).mono ?_
  rintro e w3 ⟨Aq, cq, rfl, ho3, hb3⟩
  have HP3 : Hid (Lies w3 B8 Aq P) := Lib.hid (Lies.of_own ho3)
  have HP3d := Lib.hid (own_tidy ho3)
  have HB3 := Lib.hid hb3
  clear ho3 hb3
  go_wp2_with fail
  refine (implRowsOf_any Ab Aq cb cq T P w3 (HT2.out.below HB3.out) HP3.out HT2d.out HP3d.out HT8.out HP8.out HT2c.out (by omega)).mono ?_
  rintro e w4 ⟨rfl, hb4⟩
  have HB14 : Hid (Below w1.heap.size w1 w4) := Lib.hid (below_then (below_then HB2.out HB3.out) hb4)
  clear hb4 HB2 HB3 HT2 HT2d HT2c HP3 HP3d
  go_wp2_with fail
  refine (specRowsOf_any At Ap ct cp T P w4 (HT1.out.below HB14.out) (HP1.out.below HB14.out) HTd.out HPd.out HT8.out HP8.out HTc.out (by omega)).mono ?_
  rintro e w5 ⟨rfl, hb5⟩
  have HB15 : Hid (Below w1.heap.size w1 w5) := Lib.hid (below_then HB14.out hb5)
  clear hb5 HB14
  obtain ⟨lo, hlo⟩ : ∃ lo, loR T P = lo := ⟨_, rfl⟩
  obtain ⟨hi, hhi⟩ : ∃ hi, hiR T P = hi := ⟨_, rfl⟩
  have t1 : (lo != lo) = false := by simp
  have t2 : (hi != hi) = false := by simp
  have Hlo := Lib.hid hlo
  have Hhi := Lib.hid hhi
  rw [hlo, hhi]
  clear hlo hhi
  by_cases h3 : T.length ≤ 300
  · have t3 : decide (T.length ≤ 300) = true := by simpa using h3
    go_wp2_with fail
    refine (specTextOk_any At T.length ct w5).mono ?_
    rintro e w6 ⟨rfl, rfl⟩
    rw [t3]
    obtain ⟨n, hn⟩ : ∃ n, T.length = n := ⟨_, rfl⟩
    have Hn := Lib.hid hn
    have hn3 : n ≤ 300 := by omega
    have HSf := Lib.hid (specSuffixRows_in At n ct T w6 (HT1.out.below HB15.out) HTd.out Hn hn3 (by have := HTc.out; omega))
    rw [hn]
    go_wp2_with fail
    refine HSf.out.mono ?_
    rintro e w7 ⟨Ar, cr, rfl, ho7, hb7⟩
    obtain ⟨m, hm⟩ : ∃ m, n + 1 = m := ⟨_, rfl⟩
    have hsl : ((sfx T).map Int.ofNat).length = m := by rw [List.length_map, sfx_len, hn, hm]
    rw [hsl] at ho7 ⊢
    have HB17 : Hid (Below w1.heap.size w1 w7) := Lib.hid (below_then HB15.out hb7)
    have HR7 : Hid (Lies w7 I Ar ((sfx T).map Int.ofNat)) := Lib.hid (Lies.of_own ho7)
    have HO7 := Lib.hid ho7
    have Hsl := Lib.hid hsl
    clear ho7 hb7 HB15 HSf hsl
    have HOc := Lib.hid (implOccurs_any At Ap ct cp T P w7 (HT1.out.below HB17.out) (HP1.out.below HB17.out) HTd.out HPd.out HT8.out HP8.out HTc.out)
    have hov : occV T P = occK T P m := by unfold occV; rw [if_pos h3, hn, hm]
    rw [hov, hn] at HOc
    go_wp2_with fail
    refine HOc.out.mono ?_
    rintro e w8 ⟨Ao, co, rfl, ho8, hb8⟩
    obtain ⟨u, hu⟩ : ∃ u, (occK T P m).length = u := ⟨_, rfl⟩
    have hum := occK_len T P m
    rw [hu] at ho8 hum ⊢
    have Hu := Lib.hid hu
    have HO8 : Hid (Lies w8 I Ao (occK T P m)) := Lib.hid (by rw [← hu] at ho8; exact Lies.of_own ho8)
    have HR8 : Hid (Lies w8 I Ar ((sfx T).map Int.ofNat)) := Lib.hid (HR7.out.below hb8)
    have HRo8 := Lib.hid (own_below HO7.out hb8 (Nat.le_refl _))
    have HB18 : Hid (Below w.heap.size w w8) := Lib.hid (below_then HB1.out (below_then HB17.out hb8))
    clear ho8 hb8 HOc hov HB17 HR7 HO7
    obtain ⟨a, ha⟩ : ∃ a, loN T P = a := ⟨_, rfl⟩
    have hle : a + u ≤ m := by
      have h1 : (List.range (T.length + 1)).countP (fun k => !decide (0 < sideV T P k)) ≤ (List.range (T.length + 1)).length := List.countP_le_length
      rw [count_hi, List.length_range, ha, hn, hm, hu] at h1
      exact h1
    obtain ⟨z, hz⟩ : ∃ z, a + u = z := ⟨_, rfl⟩
    have hloa : lo = (a : Int) := by rw [← Hlo.out]; unfold loR; rw [if_pos h3, ha]
    have hhiz : hi = (z : Int) := by
      rw [← Hhi.out]
      unfold hiR
      rw [if_pos h3, ha, hn, hm, hu]
      omega
    subst hloa hhiz
    have hsub : IntKind.i64.wrap ((z : Int) - (a : Int)) = (u : Int) := by rw [IntWalk.i64_in _ (by omega)]; omega
    have hsub2 : (z : Int) - (a : Int) = (u : Int) := by omega
    have tu : ((u : Int) != (u : Int)) = false := by simp
    have Ha := Lib.hid ha
    clear t1 t2 ha hu hn hz
    go_wp2_with fail
    go_loopw [11] (fun i wr => ∃ k : Nat, k ≤ u ∧ i = .int .i64 k ∧ Hid (Drawn w8 wr)) (fun i _ => u - (intOf i).toNat)
    case atStart => exact ⟨0, Nat.zero_le _, rfl, Lib.hid (Drawn.refl _)⟩
    case round =>
      obtain ⟨k, hk, rfl, HDr⟩ := hrel
      have HBw : Hid (Below w8.heap.size w8 wr) := Lib.hid (HDr.out.below _)
      by_cases hlt : k < u
      · obtain ⟨bo, oo, y, hAo, hblo, hy, hcy⟩ := (HO8.out.below HBw.out).at_ (i := k) (by rw [Hu.out]; exact hlt)
        subst hAo
        have hm2 : occK T P m = occK T P (T.length + 1) := by rw [Hn.out, hm]
        obtain ⟨v, rfl, hv1, hv2⟩ := occ_at (i := k) (z := y) (by rw [← hm2]; exact hy)
        obtain ⟨br, cbr, hvb, _, _⟩ := HRo8.out.form (by omega)
        injection hvb with e1 e2 e3
        subst e1 e3
        clear e2
        obtain ⟨q1, hs1, hM1⟩ := slice_midI Try.elemInts Try.sizeInt br 0 m cr ((sfx T).map Int.ofNat) a z wr Hsl (HR8.out.below HBw.out) (by omega) (by omega) (row_cap HRo8.out).1
        have hcnt := count_one (hi := z) hv1 hv2 (by rw [← hm2, Hu.out, Ha.out]; omega)
        rw [Ha.out] at hcnt
        obtain ⟨M, hM⟩ : ∃ M, (((sfx T).map Int.ofNat).drop a).take (z - a) = M := ⟨_, rfl⟩
        rw [hM] at hs1 hM1 hcnt
        have hMl : M.length ≤ 400 := by
          rw [← hM, List.length_take]
          omega
        have hCt := fun q => count_any (some ⟨br, q1, none⟩) M.length (cr - a) M (v : Int) (wr.drewN q) hM1 (Lib.hid rfl) (by omega)
        rw [hcnt] at hCt
        have HCt := Lib.hid hCt
        have hku2 : (k : Int) < (u : Int) := by omega
        have hrel2 : ∀ wq, Drawn wr wq → Hid (Drawn w8 wq) := fun wq hq => Lib.hid (by
          obtain ⟨d1, hd1⟩ := HDr.out
          obtain ⟨d2, hd2⟩ := hq
          rw [hd2, hd1]
          exact Drawn.two _ _ _)
        have HRel := Lib.hid hrel2
        clear hM hM1 hcnt hCt hv1 hv2 hm2 hMl hrel2
        rcases Nat.eq_zero_or_pos k with h0 | h0
        · have hk0 : decide ((0 : Int) < (k : Int)) = false := decide_eq_false (by omega)
          have hk0b : decide (0 < k) = false := decide_eq_false (by omega)
          clear hy h0
          go_wp2
          go_quiet ((go_at_call 28; exact Calls.quiet_of_same (HCt.out _)))
          go_wp2
          go_roundw
          case rel => exact ⟨k + 1, by omega, by go_num, HRel.out _ ⟨_, rfl⟩⟩
          case measure => simp [intOf]; omega
        · obtain ⟨p, hp⟩ : ∃ p, k = p + 1 := ⟨k - 1, by omega⟩
          obtain ⟨bo2, oo2, y2, hAo2, _, hy2, hcy2⟩ := (HO8.out.below HBw.out).at_ (i := p) (by rw [Hu.out]; omega)
          cases hAo2
          have hlt2 := occ_lt hy2 hy (by omega)
          have hk0 : decide ((0 : Int) < (k : Int)) = true := decide_eq_true (by omega)
          have hk0b : decide (0 < k) = true := decide_eq_true (by omega)
          have hki : IntKind.i64.wrap ((k : Int) - 1) = (p : Int) := by rw [IntWalk.i64_in _ (by omega)]; omega
          have hki2 : (k : Int) - 1 = (p : Int) := by omega
          have hki3 : IntKind.i64.wrap (p : Int) = (p : Int) := IntWalk.i64_in _ (by omega)
          have hpu2 : (p : Int) < (u : Int) := by omega
          have hge : decide ((v : Int) ≤ y2) = false := decide_eq_false (by omega)
          clear hy hy2 hp
          go_wp2
          go_quiet ((go_at_call 28; exact Calls.quiet_of_same (HCt.out _)))
          go_wp2
          go_roundw
          case rel => exact ⟨k + 1, by omega, by go_num, HRel.out _ ⟨_, rfl⟩⟩
          case measure => simp [intOf]; omega
      · obtain rfl : u = k := by omega
        have HF : Hid (Below w.heap.size w wr) := Lib.hid (below_then HB18.out HBw.out)
        go_wp2
        go_ret
        exact ⟨rfl, HF.out⟩
  · have t3 : decide (T.length ≤ 300) = false := by simpa using h3
    have e1 : (lo == lo) = true := by simp
    have e2 : (hi == hi) = true := by simp
    go_wp2_with fail
    refine (specTextOk_any At T.length ct w5).mono ?_
    rintro e w6 ⟨rfl, rfl⟩
    rw [t3]
    have HF : Hid (Below w.heap.size w w6) := Lib.hid (below_then HB1.out HB15.out)
    go_wp2
    go_ret
    exact ⟨rfl, HF.out⟩

end Go.Proofs.Ytlgnndfhpnbhmaa
