/- The law FnRowsSorted walked. -/
import Derived.Test.YtlgnndfhpnbhmaaSfD3
import Derived.Test.YtlgnndfhpnbhmaaSfI4
import Derived.Test.YtlgnndfhpnbhmaaSf3
import Derived.Test.YtlgnndfhpnbhmaaSfInv1
import Derived.Test.YtlgnndfhpnbhmaaBytesNew
import Derived.Test.YtlgnndfhpnbhmaaScene4
namespace Go.Proofs.Ytlgnndfhpnbhmaa
open Go.RowKit
set_option maxRecDepth 100000

theorem sfx_next {T : List Nat} {p x y : Nat} (hx : (sfx T)[p]? = some x) (hy : (sfx T)[p + 1]? = some y) : lcmp (T.drop x) (T.drop y) = -1 ∧ lcmp (T.drop y) (T.drop x) = 1 := by
  obtain ⟨h1, rfl⟩ := List.getElem?_eq_some_iff.1 hx
  obtain ⟨h2, rfl⟩ := List.getElem?_eq_some_iff.1 hy
  have h := List.pairwise_iff_getElem.1 (sfx_is T).2 p (p + 1) h1 h2 (by omega)
  have hs := lcmp_swap (T.drop (sfx T)[p]) (T.drop (sfx T)[p + 1])
  rcases lcmp_vals (T.drop (sfx T)[p]) (T.drop (sfx T)[p + 1]) with e | e | e <;> omega
theorem sfx_zero (T : List Nat) : (sfx T)[0]? = some T.length := by
  have hm : T.length ∈ sfx T := sfx_mem.2 (Nat.le_refl _)
  obtain ⟨j, hj, e⟩ := List.getElem_of_mem hm
  by_cases h0 : j = 0
  · subst h0
    rw [List.getElem?_eq_getElem hj, e]
  · exfalso
    have h0l : 0 < (sfx T).length := by omega
    have h := List.pairwise_iff_getElem.1 (sfx_is T).2 0 j h0l hj (by omega)
    rw [e, List.drop_of_length_le (Nat.le_refl _)] at h
    cases hd : T.drop (sfx T)[0] with
    | nil => rw [hd] at h; simp [lcmp] at h
    | cons a r => rw [hd] at h; simp [lcmp] at h
theorem sfx_invOk {T : List Nat} (h : T.length ≤ 300) : invOk ((sfx T).map Int.ofNat) = true := by
  refine (invOk_iff _).2 ⟨by rw [List.length_map, sfx_len]; omega, fun x hx => ?_⟩
  rw [List.length_map, sfx_len] at hx
  exact List.mem_map.2 ⟨x, sfx_mem.2 (by omega), rfl⟩
theorem sfx_back {T : List Nat} (h : T.length ≤ 300) {i : Nat} (hi : i ≤ T.length) : ∃ v : Nat, (invV ((sfx T).map Int.ofNat))[i]? = some (v : Int) ∧ v ≤ T.length ∧ (sfx T)[v]? = some i := by
  have hok := sfx_invOk h
  have hl : ((sfx T).map Int.ofNat).length = T.length + 1 := by rw [List.length_map, sfx_len]
  have hmem : (i : Int) ∈ (sfx T).map Int.ofNat := ((invOk_iff _).1 hok).2 i (by omega)
  have hlt := List.idxOf_lt_length_iff.2 hmem
  refine ⟨((sfx T).map Int.ofNat).idxOf (i : Int), ?_, by omega, ?_⟩
  · unfold invV
    rw [if_pos hok, List.getElem?_map, List.getElem?_range (by omega)]
    rfl
  · have e := List.getElem_idxOf hlt
    have hs : ((sfx T).map Int.ofNat).idxOf (i : Int) < (sfx T).length := by rw [sfx_len]; omega
    rw [List.getElem_map] at e
    rw [List.getElem?_eq_getElem hs]
    congr 1
    exact Int.ofNat.inj e

set_option maxHeartbeats 400000 in
theorem lawRowsSorted_big (A : Option Addr) (n c : Nat) (w : World) (h : 1048576 < n) :
    Calls Try.prog 3 #[.slice A n c] w fun e w' => e = .returned (.bool true) ∧ Below w.heap.size w w' := by
  have C := Lib.hid (big_any A n c w)
  rw [decide_eq_true h] at C
  go_enter Try.func3, Try.ntmps3
  go_wp2_with fail
  refine C.out.mono ?_
  rintro e w1 ⟨rfl, rfl⟩
  go_wp2
  go_ret
  exact ⟨rfl, Below.refl _ _⟩

set_option maxHeartbeats 4000000 in
theorem lawRowsSorted (A : Option Addr) (c : Nat) (D : List Nat) (w : World) (hD : Lies w B8 A D) (hw : ∀ x ∈ D, x < 2 ^ 8) (hl : D.length ≤ 1048576) :
    Calls Try.prog 3 #[.slice A D.length c] w fun e w' => e = .returned (.bool true) ∧ Below w.heap.size w w' := by
  have C := Lib.hid (big_any A D.length c w)
  rw [decide_eq_false (by omega)] at C
  have HD := Lib.hid hD
  have HW := Lib.hid hw
  clear hD hw
  go_enter Try.func3, Try.ntmps3
  go_wp2_with fail
  refine C.out.mono ?_
  rintro e w0 ⟨rfl, rfl⟩
  go_wp2_with fail
  refine (drawText_any A c D w HD.out HW.out hl).mono ?_
  rintro e w1 ⟨At, ct, T, rfl, hT, hT8, ho, hb⟩
  have sc := (Scene.start w).row hb ho
  have HT8 := Lib.hid hT8
  clear ho hb hT8 C
  go_wp2_with fail
  refine (bytesOf_new At ct T w1 (sc.lies 0 rfl) (own_tidy (sc.getRow 0 rfl)) (by omega)).mono ?_
  rintro e w2 ⟨Ab, cb, rfl, ho, hb⟩
  replace sc := sc.row hb ho
  clear ho hb
  go_wp2_with fail
  refine (implSuffixRows_any Ab cb T w2 (sc.lies 0 rfl) HT8.out).mono ?_
  rintro e w3 ⟨Ar, cr, rfl, ho, hb⟩
  replace sc := sc.row hb ho
  clear ho hb
  obtain ⟨n, hn⟩ : ∃ n, T.length = n := ⟨_, rfl⟩
  have Hn := Lib.hid hn
  go_wp2_with fail
  refine (specTextOk_any At n ct w3).mono ?_
  rintro e w4 ⟨rfl, rfl⟩
  by_cases h3 : n ≤ 300
  · have hR : sfxV T = (sfx T).map Int.ofNat := by unfold sfxV; rw [hn, if_pos h3]
    obtain ⟨m, hm⟩ : ∃ m, n + 1 = m := ⟨_, rfl⟩
    have hRl : (sfxV T).length = m := by rw [hR, List.length_map, sfx_len, hn, hm]
    have t3 : decide (n ≤ 300) = true := by simpa using h3
    rw [t3]
    have HR := Lib.hid hR
    have hOk : invOk (sfxV T) = true := by rw [hR]; exact sfx_invOk (by omega)
    have hIl : (invV (sfxV T)).length = m := by
      unfold invV
      rw [if_pos hOk, List.length_map, List.length_range, hRl]
    have HInv := Lib.hid (implInverse_any Ar cr (sfxV T) w4 (sc.lies 0 rfl) (by omega))
    unfold InvEnd at HInv
    rw [hRl, hIl, hOk] at HInv
    rw [hRl]
    clear hR t3 hOk
    go_wp2_with fail
    refine HInv.out.mono ?_
    rintro e w5 ⟨Ai, ci, rfl, ho, hb⟩
    have HI : Hid (Lies w5 I Ai (invV (sfxV T))) := Lib.hid (by rw [← hIl] at ho; exact Lies.of_own ho)
    replace sc := sc.step hb
    have HRw : Hid (Lies w5 I Ar (sfxV T)) := Lib.hid (sc.lies 0 rfl)
    have HTw : Hid (Lies w5 B8 At T) := Lib.hid (sc.lies 2 rfl)
    have HTd := Lib.hid (own_tidy (sc.getRow 2 rfl))
    have HTc := Lib.hid (row_cap (sc.getRow 2 rfl)).1
    have HB := Lib.hid sc.below
    clear ho hb HInv sc
    have HRl := Lib.hid hRl
    have HIl := Lib.hid hIl
    obtain ⟨br, or, hAr, hbl, hc0⟩ := HRw.out 0 (n : Int) (by rw [HR.out]; exact ofNat_at (by rw [sfx_zero, hn]))
    subst hAr
    rw [Nat.add_zero] at hc0
    have hmi : (n : Int) + 1 = (m : Int) := by omega
    have hm0 : 0 < m := by omega
    have hm0i : (0 : Int) < (m : Int) := by omega
    clear hRl hIl hn
    go_wp2_with fail
    go_loopw [7] (fun i wr => ∃ k : Nat, 1 ≤ k ∧ k ≤ m ∧ i = .int .i64 k ∧ Hid (Drawn w5 wr)) (fun i _ => m - (intOf i).toNat)
    case atStart => exact ⟨1, Nat.le_refl _, by omega, rfl, Lib.hid (Drawn.refl _)⟩
    case round =>
      obtain ⟨k, hk1, hk, rfl, HDr⟩ := hrel
      have HBw : Hid (Below w5.heap.size w5 wr) := Lib.hid (HDr.out.below _)
      by_cases hlt : k < m
      · obtain ⟨p, hp⟩ : ∃ p, k = p + 1 := ⟨k - 1, by omega⟩
        obtain ⟨x, hx, hxn⟩ := sfx_at (t := T) (k := p) (by rw [Hn.out]; omega)
        obtain ⟨y, hy, hyn⟩ := sfx_at (t := T) (k := k) (by rw [Hn.out]; omega)
        have hnext := sfx_next hx (by rw [← hp]; exact hy)
        obtain ⟨b1, o1, hA1, _, hcx⟩ := (HRw.out.below HBw.out) p (x : Int) (by rw [HR.out]; exact ofNat_at hx)
        obtain ⟨b2, o2, hA2, _, hcy⟩ := (HRw.out.below HBw.out) k (y : Int) (by rw [HR.out]; exact ofNat_at hy)
        cases hA1
        cases hA2
        have S1 := fun q => specSuffixCmp_any At ct T x y (wr.drewN q) (HTw.out.below (below_dN HBw.out q)) HTd.out HT8.out HTc.out
        have S2 := fun q => implSuffixCmp_any At ct T y x (wr.drewN q) (HTw.out.below (below_dN HBw.out q)) HTd.out HT8.out HTc.out
        have e1 : scV T x y = -1 := by
          unfold scV
          rw [if_pos ⟨by rw [Hn.out]; exact h3, ⟨by omega, by omega⟩, by omega, by omega⟩, Int.toNat_natCast, Int.toNat_natCast]
          exact hnext.1
        have e2 : scV T y x = 1 := by
          unfold scV
          rw [if_pos ⟨by rw [Hn.out]; exact h3, ⟨by omega, by omega⟩, by omega, by omega⟩, Int.toNat_natCast, Int.toNat_natCast]
          exact hnext.2
        rw [e1, Hn.out] at S1
        rw [e2, Hn.out] at S2
        have HS1 := Lib.hid S1
        have HS2 := Lib.hid S2
        have hki : IntKind.i64.wrap ((k : Int) - 1) = (p : Int) := by rw [IntWalk.i64_in _ (by omega)]; omega
        have hki2 : (k : Int) - 1 = (p : Int) := by omega
        have hki3 : IntKind.i64.wrap (p : Int) = (p : Int) := IntWalk.i64_in _ (by omega)
        have hpm : p < m := by omega
        have hpm2 : (p : Int) < (m : Int) := by omega
        have hkm2 : (k : Int) < (m : Int) := by omega
        clear S1 S2 e1 e2 hnext hx hy hp hxn hyn
        go_wp2
        go_quiet (first | (go_at_call 19; exact Calls.quiet_of (HS1.out _)) | (go_at_call 20; exact Calls.quiet_of (HS2.out _)))
        go_wp2
        go_roundw
        case rel => exact ⟨k + 1, by omega, by omega, by go_num, Lib.hid (by
          obtain ⟨a, ha⟩ := HDr.out
          rw [ha]
          exact Drawn.two _ _ _)⟩
        case measure => simp [intOf]; omega
      · obtain rfl : m = k := by omega
        go_wp2_with fail
        go_loopw [8] (fun i wr => ∃ j : Nat, j ≤ m ∧ i = .int .i64 j ∧ Hid (Drawn w5 wr)) (fun i _ => m - (intOf i).toNat)
        case atStart => exact ⟨0, Nat.zero_le _, rfl, HDr⟩
        case round =>
          obtain ⟨j, hj, rfl, HDs⟩ := hrel
          have HBs : Hid (Below w5.heap.size w5 wr) := Lib.hid (HDs.out.below _)
          by_cases hjm : j < m
          · obtain ⟨v, hv, hvn, hvj⟩ := sfx_back (T := T) (by rw [Hn.out]; exact h3) (i := j) (by rw [Hn.out]; omega)
            rw [← HR.out] at hv
            obtain ⟨b1, o1, hA1, _, hcv⟩ := (HI.out.below HBs.out) j (v : Int) hv
            obtain ⟨b2, o2, hA2, _, hcj⟩ := (HRw.out.below HBs.out) v (j : Int) (by rw [HR.out]; exact ofNat_at hvj)
            cases hA2
            subst hA1
            have hvm : v < m := by rw [Hn.out] at hvn; omega
            have hvm2 : (v : Int) < (m : Int) := by omega
            have hjm2 : (j : Int) < (m : Int) := by omega
            have hne : ((j : Int) != (j : Int)) = false := by simp
            clear hv hvn hvj
            go_wp2
            go_roundw
            case rel => exact ⟨j + 1, by omega, by go_num, HDs⟩
            case measure => simp [intOf]; omega
          · obtain rfl : m = j := by omega
            have HF : Hid (Below w.heap.size w wr) := Lib.hid (below_then HB.out HBs.out)
            go_wp2
            go_ret
            exact ⟨rfl, HF.out⟩
  · have hR : sfxV T = [] := by unfold sfxV; rw [hn, if_neg h3]
    have t3 : decide (n ≤ 300) = false := by simpa using h3
    rw [t3, hR]
    have HB := Lib.hid sc.below
    clear sc hR
    simp only [List.length_nil]
    go_wp2
    go_ret
    exact ⟨rfl, HB.out⟩

end Go.Proofs.Ytlgnndfhpnbhmaa
