/- The law FnLcpMeans walked. -/
import Derived.Test.YtlgnndfhpnbhmaaSfD3
import Derived.Test.YtlgnndfhpnbhmaaSfL3
import Derived.Test.YtlgnndfhpnbhmaaSfEq
import Derived.Test.YtlgnndfhpnbhmaaBytesNew
import Derived.Test.YtlgnndfhpnbhmaaScene4
namespace Go.Proofs.Ytlgnndfhpnbhmaa
open Go.RowKit
set_option maxRecDepth 100000

theorem cpl_take : ∀ L M : List Nat, L.take (cpl L M) = M.take (cpl L M)
  | [], M => by rw [cpl_nil_left]; simp
  | _ :: _, [] => by rw [cpl_nil_right]; simp
  | a :: us, b :: vs => by
    rw [cpl_cons]
    by_cases h : a = b
    · subst h
      rw [if_pos rfl, List.take_succ_cons, List.take_succ_cons, cpl_take us vs]
    · rw [if_neg h]; simp
theorem cpl_diff : ∀ (L M : List Nat) (x y : Nat), L[cpl L M]? = some x → M[cpl L M]? = some y → x ≠ y
  | [], M, x, y, hx, _ => by simp at hx
  | _ :: _, [], x, y, _, hy => by simp at hy
  | a :: us, b :: vs, x, y, hx, hy => by
    rw [cpl_cons] at hx hy
    by_cases h : a = b
    · subst h
      rw [if_pos rfl] at hx hy
      exact cpl_diff us vs x y (by simpa using hx) (by simpa using hy)
    · rw [if_neg h] at hx hy
      simp at hx hy
      subst hx hy
      exact h

set_option maxHeartbeats 400000 in
theorem lawLcpMeans_big (A : Option Addr) (n c : Nat) (w : World) (h : 1048576 < n) :
    Calls Try.prog 4 #[.slice A n c] w fun e w' => e = .returned (.bool true) ∧ Below w.heap.size w w' := by
  have C := Lib.hid (big_any A n c w)
  rw [decide_eq_true h] at C
  go_enter Try.func4, Try.ntmps4
  go_wp2_with fail
  refine C.out.mono ?_
  rintro e w1 ⟨rfl, rfl⟩
  go_wp2
  go_ret
  exact ⟨rfl, Below.refl _ _⟩

set_option maxHeartbeats 8000000 in
theorem lawLcpMeans (A : Option Addr) (c : Nat) (D : List Nat) (w : World) (hD : Lies w B8 A D) (hw : ∀ x ∈ D, x < 2 ^ 8) (hl : D.length ≤ 1048576) :
    Calls Try.prog 4 #[.slice A D.length c] w fun e w' => e = .returned (.bool true) ∧ Below w.heap.size w w' := by
  have C := Lib.hid (big_any A D.length c w)
  rw [decide_eq_false (by omega)] at C
  have HD := Lib.hid hD
  have HW := Lib.hid hw
  clear hD hw
  go_enter Try.func4, Try.ntmps4
  go_wp2_with fail
  refine C.out.mono ?_
  rintro e w0 ⟨rfl, rfl⟩
  go_wp2_with fail
  refine (drawTextL_any A c D w HD.out HW.out hl).mono ?_
  rintro e w1 ⟨At, ct, T, rfl, hT, hT8, ho, hb⟩
  have sc := (Scene.start w).row hb ho
  have HT8 := Lib.hid hT8
  clear ho hb hT8 C
  obtain ⟨n, hn⟩ : ∃ n, T.length = n := ⟨_, rfl⟩
  have Hn := Lib.hid hn
  have hTn : n ≤ 301 := by omega
  go_wp2_with fail
  refine (specTextOk_any At n ct w1).mono ?_
  rintro e w2 ⟨rfl, rfl⟩
  by_cases h3 : n ≤ 300
  · obtain ⟨m, hm⟩ : ∃ m, n + 1 = m := ⟨_, rfl⟩
    have t3 : decide (n ≤ 300) = true := by simpa using h3
    rw [t3]
    have HBo := Lib.hid (bytesOf_new At ct T w2 (sc.lies 0 rfl) (own_tidy (sc.getRow 0 rfl)) (by omega))
    rw [hn] at HBo
    go_wp2_with fail
    refine HBo.out.mono ?_
    rintro e w3 ⟨Ab, cb, hbe, ho, hb⟩
    rw [hn] at hbe
    subst hbe
    replace sc := sc.row hb ho
    clear ho hb HBo
    have HLc := Lib.hid (implLcpRows_any Ab cb T w3 (sc.lies 0 rfl) (own_tidy (sc.getRow 0 rfl)) HT8.out (row_cap (sc.getRow 0 rfl)).1)
    have hlv : lcpV T = (List.range m).map (lcpAt T) := by unfold lcpV; rw [hn, if_pos h3, hm]
    rw [hlv, hn] at HLc
    go_wp2_with fail
    refine HLc.out.mono ?_
    rintro e w4 ⟨Al, cl, rfl, ho, hb⟩
    have hll : ((List.range m).map (lcpAt T)).length = m := by simp
    rw [hll] at ho ⊢
    replace sc := sc.row hb ho
    clear ho hb HLc hlv
    have HSf := Lib.hid (specSuffixRows_any At ct T w4 (sc.lies 2 rfl) (own_tidy (sc.getRow 2 rfl)) (row_cap (sc.getRow 2 rfl)).1)
    have hsv : sfxV T = (sfx T).map Int.ofNat := by unfold sfxV; rw [hn, if_pos h3]
    rw [hsv, hn] at HSf
    go_wp2_with fail
    refine HSf.out.mono ?_
    rintro e w5 ⟨Ar, cr, rfl, ho, hb⟩
    have hsl : ((sfx T).map Int.ofNat).length = m := by rw [List.length_map, sfx_len, hn, hm]
    rw [hsl] at ho ⊢
    replace sc := sc.row hb ho
    have HRw : Hid (Lies w5 I Ar ((sfx T).map Int.ofNat)) := Lib.hid (Lies.of_own (sc.getRow 0 rfl))
    have HLw : Hid (Lies w5 I Al ((List.range m).map (lcpAt T))) := Lib.hid (Lies.of_own (sc.getRow 1 rfl))
    have HTw : Hid (Lies w5 B8 At T) := Lib.hid (sc.lies 3 rfl)
    have HTo := Lib.hid (sc.getRow 3 rfl)
    have HB := Lib.hid sc.below
    clear ho hb HSf hsv sc hll hsl
    obtain ⟨bl, ol, hAl, _, hc0⟩ := HLw.out 0 0 (by rw [List.getElem?_map, List.getElem?_range (by omega)]; rfl)
    subst hAl
    rw [Nat.add_zero] at hc0
    have hm0 : 0 < m := by omega
    have hm0i : (0 : Int) < (m : Int) := by omega
    clear hn
    go_wp2_with fail
    go_loopw [6] (fun i wr => ∃ k : Nat, 1 ≤ k ∧ k ≤ m ∧ i = .int .i64 k ∧ Hid (Drawn w5 wr)) (fun i _ => m - (intOf i).toNat)
    case atStart => exact ⟨1, Nat.le_refl _, by omega, rfl, Lib.hid (Drawn.refl _)⟩
    case round =>
      obtain ⟨k, hk1, hk, rfl, HDr⟩ := hrel
      have HBw : Hid (Below w5.heap.size w5 wr) := Lib.hid (HDr.out.below _)
      by_cases hlt : k < m
      · obtain ⟨p, hp⟩ : ∃ p, k = p + 1 := ⟨k - 1, by omega⟩
        obtain ⟨x, hx, hxn⟩ := sfx_at (t := T) (k := p) (by rw [Hn.out]; omega)
        obtain ⟨y, hy, hyn⟩ := sfx_at (t := T) (k := k) (by rw [Hn.out]; omega)
        rw [Hn.out] at hxn hyn
        obtain ⟨b1, o1, hA1, _, hcx⟩ := (HRw.out.below HBw.out) p (x : Int) (ofNat_at hx)
        obtain ⟨b2, o2, hA2, _, hcy⟩ := (HRw.out.below HBw.out) k (y : Int) (ofNat_at hy)
        subst hA1
        cases hA2
        obtain ⟨v, hv⟩ : ∃ v, cpl (T.drop x) (T.drop y) = v := ⟨_, rfl⟩
        have hva : lcpAt T k = (v : Int) := by
          unfold lcpAt
          rw [if_neg (by omega), show k - 1 = p by omega, getM hx, getM hy, hv]
        obtain ⟨b3, o3, hA3, _, hcv⟩ := (HLw.out.below HBw.out) k (v : Int) (by rw [List.getElem?_map, List.getElem?_range hlt, ← hva]; rfl)
        cases hA3
        have hle := cpl_le (T.drop x) (T.drop y)
        rw [hv, List.length_drop, List.length_drop, Hn.out] at hle
        have htk := cpl_take (T.drop x) (T.drop y)
        have hdf := cpl_diff (T.drop x) (T.drop y)
        rw [hv] at htk hdf
        obtain ⟨ja, hja⟩ : ∃ ja, x + v = ja := ⟨_, rfl⟩
        obtain ⟨jb, hjb⟩ : ∃ jb, y + v = jb := ⟨_, rfl⟩
        obtain ⟨bt, cbt, hvb, _, _⟩ := HTo.out.form (by rw [Hn.out]; omega)
        injection hvb with e1 e2 e3
        subst e1 e3
        clear e2
        have hcap := (row_cap HTo.out).1
        rw [Hn.out] at hcap
        obtain ⟨q1, hs1, hM1⟩ := slice_mid Try.elemBytes Try.sizeByte bt 0 n ct T x ja wr Hn (HTw.out.below HBw.out) (by omega) (by omega) hcap
        obtain ⟨q2, hs2, hM2⟩ := slice_mid Try.elemBytes Try.sizeByte bt 0 n ct T y jb wr Hn (HTw.out.below HBw.out) (by omega) (by omega) hcap
        have eM : (T.drop y).take (jb - y) = (T.drop x).take (ja - x) := by rw [show jb - y = v by omega, show ja - x = v by omega]; exact htk.symm
        rw [eM] at hs2 hM2
        obtain ⟨M, hM⟩ : ∃ M, (T.drop x).take (ja - x) = M := ⟨_, rfl⟩
        rw [hM] at hs1 hM1 hs2 hM2
        have hv1 := fun q => conv_any (P := Try.prog) (wr.drewN q) 22 5 9 Try.underlying22 Try.underlying5 Try.underlying9 (some ⟨bt, q1, none⟩) (ct - x) M (.inr ⟨_, _, rfl⟩) hM1
        have hv2 := fun q => conv_any (P := Try.prog) (wr.drewN q) 22 5 9 Try.underlying22 Try.underlying5 Try.underlying9 (some ⟨bt, q2, none⟩) (ct - y) M (.inr ⟨_, _, rfl⟩) hM2
        generalize bstr M = S at *
        have hki : IntKind.i64.wrap ((k : Int) - 1) = (p : Int) := by rw [IntWalk.i64_in _ (by omega)]; omega
        have hki2 : (k : Int) - 1 = (p : Int) := by omega
        have hki3 : IntKind.i64.wrap (p : Int) = (p : Int) := IntWalk.i64_in _ (by omega)
        have hpm2 : (p : Int) < (m : Int) := by omega
        have hkm2 : (k : Int) < (m : Int) := by omega
        have hx1 : (x : Int) + (v : Int) = (ja : Int) := by omega
        have hy1 : (y : Int) + (v : Int) = (jb : Int) := by omega
        have hx2 : IntKind.i64.wrap (ja : Int) = (ja : Int) := IntWalk.i64_in _ (by omega)
        have hy2 : IntKind.i64.wrap (jb : Int) = (jb : Int) := IntWalk.i64_in _ (by omega)
        have hv0 : decide ((v : Int) < 0) = false := by simp
        have hg1 : decide ((n : Int) < (ja : Int)) = false := by simp; omega
        have hg2 : decide ((n : Int) < (jb : Int)) = false := by simp; omega
        have hg1b : decide (n < ja) = false := by simp; omega
        have hg2b : decide (n < jb) = false := by simp; omega
        have hAt : ∀ j, j < n → ∃ z, T[j]? = some z ∧ wr.cell? ⟨bt, j, none⟩ = some (B8 z) := fun j hj => by
          obtain ⟨b', o', z, hA', _, hz, hcz⟩ := (HTw.out.below HBw.out).at_ (i := j) (by rw [Hn.out]; exact hj)
          cases hA'
          rw [Nat.zero_add] at hcz
          exact ⟨z, hz, hcz⟩
        have HTw2 := Lib.hid (HTw.out.below HBw.out)
        have HD2 := HDr
        clear hx hy hp hva htk eM hM hM1 hM2
        go_wp2
        go_quiet (fail)
        go_wp2
        go_quiet (fail)
        go_wp2
        by_cases ha : ja < n
        · have ha1 : decide ((ja : Int) < (n : Int)) = true := by simp; omega
          have ha2 : decide (ja < n) = true := by simpa using ha
          have ha3 : (ja : Int) < (n : Int) := by omega
          by_cases hb : jb < n
          · have hb1 : decide ((jb : Int) < (n : Int)) = true := by simp; omega
            have hb2 : decide (jb < n) = true := by simpa using hb
            have hb3 : (jb : Int) < (n : Int) := by omega
            obtain ⟨z1, hz1, hcz1⟩ := hAt ja ha
            obtain ⟨z2, hz2, hcz2⟩ := hAt jb hb
            have hne := hdf z1 z2 (by rw [List.getElem?_drop, hja]; exact hz1) (by rw [List.getElem?_drop, hjb]; exact hz2)
            have hne1 : (z1 == z2) = false := by simpa using hne
            have hne2 : ((z1 : Int) == (z2 : Int)) = false := by rw [beq_eq_false_iff_ne]; omega
            have hne3 : ¬ ((z1 : Int) = (z2 : Int)) := by omega
            clear hz1 hz2 hdf hAt
            go_quiet (fail)
            go_wp2
            go_roundw
            case rel => exact ⟨k + 1, by omega, by omega, by go_num, Lib.hid (by
              obtain ⟨d1, hd1⟩ := HDr.out
              rw [hd1]
              simp only [World.drewN_drewN]
              exact ⟨_, rfl⟩)⟩
            case measure => simp [intOf]; omega
          · have hb1 : decide ((jb : Int) < (n : Int)) = false := by simp; omega
            have hb2 : decide (jb < n) = false := by simpa using hb
            clear hdf hAt
            go_quiet (fail)
            go_wp2
            go_roundw
            case rel => exact ⟨k + 1, by omega, by omega, by go_num, Lib.hid (by
              obtain ⟨d1, hd1⟩ := HDr.out
              rw [hd1]
              simp only [World.drewN_drewN]
              exact ⟨_, rfl⟩)⟩
            case measure => simp [intOf]; omega
        · have ha1 : decide ((ja : Int) < (n : Int)) = false := by simp; omega
          have ha2 : decide (ja < n) = false := by simpa using ha
          clear hdf hAt
          go_quiet (fail)
          go_wp2
          go_roundw
          case rel => exact ⟨k + 1, by omega, by omega, by go_num, Lib.hid (by
            obtain ⟨d1, hd1⟩ := HDr.out
            rw [hd1]
            simp only [World.drewN_drewN]
            exact ⟨_, rfl⟩)⟩
          case measure => simp [intOf]; omega
      · obtain rfl : m = k := by omega
        have HF : Hid (Below w.heap.size w wr) := Lib.hid (below_then HB.out HBw.out)
        go_wp2
        go_ret
        exact ⟨rfl, HF.out⟩
  · have t3 : decide (n ≤ 300) = false := by simpa using h3
    rw [t3]
    have HLc := Lib.hid (implLcpRows_any At ct T w2 (sc.lies 0 rfl) (own_tidy (sc.getRow 0 rfl)) HT8.out (row_cap (sc.getRow 0 rfl)).1)
    have hlv : lcpV T = [] := by unfold lcpV; rw [hn, if_neg h3]
    rw [hlv, hn] at HLc
    go_wp2_with fail
    refine HLc.out.mono ?_
    rintro e w4 ⟨Al, cl, rfl, ho, hb⟩
    have HF : Hid (Below w.heap.size w w4) := Lib.hid (below_then sc.below hb)
    simp only [List.length_nil]
    clear ho hb HLc sc
    go_wp2
    go_ret
    exact ⟨rfl, HF.out⟩

end Go.Proofs.Ytlgnndfhpnbhmaa
