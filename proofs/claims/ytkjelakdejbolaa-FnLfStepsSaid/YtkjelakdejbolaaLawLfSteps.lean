/- The law FnLfSteps walked. -/
import Derived.Test.YtkjelakdejbolaaSyD
import Derived.Test.YtkjelakdejbolaaSy6
import Derived.Test.YtkjelakdejbolaaSy10
import Derived.Test.YtkjelakdejbolaaBytesNew
import Derived.Test.YtkjelakdejbolaaScene4
import Derived.Deep.RegionHeld3
namespace Go.Proofs.Ytkjelakdejbolaa
open Go.RowKit
set_option maxRecDepth 100000

theorem lfV_bwt {T : List Nat} (h8 : ∀ x ∈ T, x < 2 ^ 8) (h3 : T.length ≤ 300) : lfV (bwtL T) = (List.range (T.length + 1)).map fun k : Nat => (lfAt (bwtL T) k : Int) := by
  unfold lfV
  rw [if_pos (bwtL_ok h8 h3), bwtL_len]
theorem st_all {T : List Nat} (h8 : ∀ x ∈ T, x < 2 ^ 8) (h3 : T.length ≤ 300) {k m : Nat} (hm : T.length + 1 = m) (hk : k < m) : stV (bwtL T) k m = k := by
  unfold stV
  rw [if_pos ((stOk_iff _ _ _).2 ⟨bwtL_ok h8 h3, ⟨by omega, by rw [bwtL_len]; omega⟩, by omega, by omega⟩), Int.toNat_natCast, Int.toNat_natCast, ← hm, walk_all T (by omega)]
theorem st_one {T : List Nat} (h8 : ∀ x ∈ T, x < 2 ^ 8) (h3 : T.length ≤ 300) {k : Nat} (hk : k < T.length + 1) : stV (bwtL T) k 1 = lfAt (bwtL T) k := by
  unfold stV
  rw [if_pos ((stOk_iff _ _ _).2 ⟨bwtL_ok h8 h3, ⟨by omega, by rw [bwtL_len]; omega⟩, by omega, by omega⟩), Int.toNat_natCast]
  rfl

set_option maxHeartbeats 400000 in
theorem lawLfSteps_big (A : Option Addr) (n c : Nat) (w : World) (h : 1048576 < n) :
    Calls Try.prog 4 #[.slice A n c] w fun e w' => e = .returned (.bool true) ∧ Below w.heap.size w w' := by
  have C := Lib.hid (big_any A n c w)
  rw [decide_eq_true h] at C
  go_enter Try.func4, Try.ntmps4
  go_wp2_with fail
  refine C.out.mono ?_
  rintro e w1 ⟨rfl, rfl⟩
  go_wp2
  go_ret
  exact ⟨rfl, Below.refl _ _⟩

set_option maxHeartbeats 8000000 in
theorem lawLfSteps (A : Option Addr) (c : Nat) (D : List Nat) (w : World) (hD : Lies w B8 A D) (hw : ∀ x ∈ D, x < 2 ^ 8) (hl : D.length ≤ 1048576) :
    Calls Try.prog 4 #[.slice A D.length c] w fun e w' => e = .returned (.bool true) ∧ Below w.heap.size w w' := by
  have C := Lib.hid (big_any A D.length c w)
  rw [decide_eq_false (by omega)] at C
  have HD := Lib.hid hD
  have HW := Lib.hid hw
  clear hD hw
  go_enter Try.func4, Try.ntmps4
  go_wp2_with fail
  refine C.out.mono ?_
  rintro e w0 ⟨rfl, rfl⟩
  go_wp2_with fail
  refine (drawTextB_any A c D w HD.out HW.out hl).mono ?_
  rintro e w1 ⟨At, ct, T, rfl, hT, hT8, ho, hb⟩
  have sc := (Scene.start w).row hb ho
  have HT8 := Lib.hid hT8
  clear ho hb hT8 C
  obtain ⟨n, hn⟩ : ∃ n, T.length = n := ⟨_, rfl⟩
  have Hn := Lib.hid hn
  rw [hn]
  clear hn
  go_wp2_with fail
  refine (specTextOk_any At n ct w1).mono ?_
  rintro e w2 ⟨rfl, rfl⟩
  by_cases h3 : n ≤ 300
  · obtain ⟨m, hm⟩ : ∃ m, n + 1 = m := ⟨_, rfl⟩
    have Hm := Lib.hid hm
    have t3 : decide (n ≤ 300) = true := by simpa using h3
    rw [t3]
    have h3T : T.length ≤ 300 := by rw [Hn.out]; exact h3
    have H3T := Lib.hid h3T
    have HSf := Lib.hid (specSuffixRows_in At n ct T w2 (by have h := sc.lies (f := B8) (L := T) 0 rfl; exact h) (own_tidy (sc.getRow 0 rfl)) Hn h3 (by have := (row_cap (sc.getRow 0 rfl)).1; have := Hn.out; omega))
    clear t3
    go_wp2_with fail
    refine HSf.out.mono ?_
    rintro e w3 ⟨Ar, cr, rfl, ho, hb⟩
    have hsl : ((sfx T).map Int.ofNat).length = m := by rw [List.length_map, sfx_len, Hn.out, hm]
    replace sc := sc.row hb ho
    rw [hsl] at sc ⊢
    have Hsl := Lib.hid hsl
    clear ho hb hsl HSf
    have HBo := Lib.hid (bytesOf_new At ct T w3 (sc.lies 1 rfl) (own_tidy (sc.getRow 1 rfl)) (by have := H3T.out; omega))
    rw [Hn.out] at HBo
    go_wp2_with fail
    refine HBo.out.mono ?_
    rintro e w4 ⟨Ab, cb, rfl, ho, hb⟩
    replace sc := sc.row hb ho
    clear ho hb HBo
    go_wp2_with fail
    refine (implBwt_any Ab cb T w4 (sc.lies 0 rfl) HT8.out).mono ?_
    rintro e w5 ⟨Aw, cw, rfl, ho, hb⟩
    have hR : bwtV T = bwtL T := by unfold bwtV; rw [Hn.out, if_pos h3]
    have hRl : (bwtL T).length = m := by rw [bwtL_len, Hn.out, hm]
    rw [hR] at ho ⊢
    replace sc := sc.row hb ho
    have HRl := Lib.hid hRl
    clear ho hb hR
    have HLf := Lib.hid (implLf_any Aw cw (bwtL T) w5 (sc.lies 0 rfl))
    rw [hRl] at HLf sc ⊢
    go_wp2_with fail
    refine HLf.out.mono ?_
    rintro e w6 ⟨Al, cl, rfl, ho, hb⟩
    have hLl : (lfV (bwtL T)).length = m := by rw [lfV_bwt HT8.out h3T, List.length_map, List.length_range, Hn.out, hm]
    have HLv : Hid (Lies w6 I Al (lfV (bwtL T))) := Lib.hid (Lies.of_own ho)
    rw [hLl]
    replace sc := sc.step hb
    have HLw : Hid (∀ k, k < m → ∃ b o, Al = some ⟨b, o, none⟩ ∧ b < w6.heap.size ∧ w6.cell? ⟨b, o + k, none⟩ = some (I (lfAt (bwtL T) k : Int))) := Lib.hid fun k hk => HLv.out k _ (by rw [lfV_bwt HT8.out H3T.out, List.getElem?_map, List.getElem?_range (by rw [Hn.out, Hm.out]; exact hk)]; rfl)
    have HRw : Hid (Lies w6 I Ar ((sfx T).map Int.ofNat)) := Lib.hid (by
      have h := sc.getRow 2 rfl
      rw [← Hsl.out] at h
      exact Lies.of_own h)
    have HBw : Hid (Lies w6 I Aw (bwtL T)) := Lib.hid (by
      have h := sc.getRow 0 rfl
      rw [← HRl.out] at h
      exact Lies.of_own h)
    have HDw : Hid (Lies w6 B8 A D) := Lib.hid (sc.liesOld HD.out)
    have HB := Lib.hid sc.below
    have hm0 : 0 < m := by omega
    have hnm : (n : Int) + 1 = (m : Int) := by omega
    have hnw : IntKind.i64.wrap ((n : Int) + 1) = (m : Int) := by rw [IntWalk.i64_in _ (by omega)]; omega
    have hm3 : m ≤ 301 := by omega
    clear ho hb HLf HLv sc hLl hRl h3T hm
    go_wp2
    go_loopw [7] (fun i wr => ∃ k : Nat, k ≤ m ∧ i = .int .i64 k ∧ Hid (Drawn w6 wr)) (fun i _ => m - (intOf i).toNat)
    case atStart => exact ⟨0, Nat.zero_le _, rfl, Lib.hid (Drawn.refl _)⟩
    case round =>
      obtain ⟨k, hk, rfl, HDr⟩ := hrel
      have HBr : Hid (Below w6.heap.size w6 wr) := Lib.hid (HDr.out.below _)
      by_cases hlt : k < m
      · obtain ⟨i, hi, hin⟩ := sfx_at (t := T) (k := k) (by rw [Hn.out]; omega)
        have hlf := lf_row hi
        have hvle := longer_le (T := T) hin
        have hvat := rowN_at hvle
        have hvlt := rowN_lt hvle
        have hmod := longer_mod (T := T) hin
        rw [Hn.out] at hin hvle hvlt hmod
        obtain ⟨v, hv⟩ : ∃ v, rowN T (longer T i) = v := ⟨_, rfl⟩
        obtain ⟨u, hu⟩ : ∃ u, longer T i = u := ⟨_, rfl⟩
        rw [hu] at hmod hvle
        rw [hv] at hlf hvlt
        rw [hv, hu] at hvat
        obtain ⟨bl, ol, hAl, hbl, hcl0⟩ := HLw.out k hlt
        rw [hlf] at hcl0
        subst hAl
        have hcl : wr.cell? ⟨bl, ol + k, none⟩ = some (I (v : Int)) := (HBr.out.cell (p := ⟨bl, ol + k, none⟩) hbl).trans hcl0
        obtain ⟨br, or, hAr, hbr, hcr1⟩ := (HRw.out.below HBr.out) k (i : Int) (ofNat_at hi)
        obtain ⟨br2, or2, hAr2, _, hcr2⟩ := (HRw.out.below HBr.out) v (u : Int) (ofNat_at hvat)
        subst hAr
        cases hAr2
        have hvm : v < m := by omega
        have hvm2 : (v : Int) < (m : Int) := by omega
        have hkm2 : (k : Int) < (m : Int) := by omega
        have hv0 : decide ((v : Int) < 0) = false := by simp
        have hvge : decide ((m : Int) ≤ (v : Int)) = false := by simp; omega
        have hvgeN : decide (m ≤ v) = false := by simp; omega
        have hsum : IntKind.i64.wrap ((i : Int) + (n : Int)) = (i : Int) + (n : Int) := IntWalk.i64_in _ (by omega)
        have hrem : ((i : Int) + (n : Int)).tmod (m : Int) = (u : Int) := by
          rw [Int.tmod_eq_emod_of_nonneg (by omega), ← hnm]
          have : (((i + n) % (n + 1) : Nat) : Int) = (u : Int) := by rw [hmod]
          rw [← this]
          simp
        have hm0i : ((m : Int) == 0) = false := by rw [beq_eq_false_iff_ne]; omega
        have huu : ((u : Int) != (u : Int)) = false := by simp
        have hrem2 : ((i : Int) + (n : Int)) % (m : Int) = (u : Int) := by
          rw [← hrem, Int.tmod_eq_emod_of_nonneg (by omega)]
        have huw : IntKind.i64.wrap (u : Int) = (u : Int) := IntWalk.i64_in _ (by omega)
        clear hi hlf hvat hmod hv hu hcl0
        go_wp2
        go_quiet (fail)
        go_wp2
        go_roundw
        case rel => exact ⟨k + 1, by omega, by go_num, Lib.hid (HDr.out.more _)⟩
        case measure => simp [intOf]; omega
      · obtain rfl : m = k := by omega
        have HP := Lib.hid (lpick_any A c D 3 (m : Int) wr (HDw.out.below HBr.out) HW.out hl (by omega) (by omega))
        go_wp2_with fail
        refine HP.out.mono ?_
        rintro e w7 ⟨r, rfl, hr, rfl⟩
        have hrm : r < m := by
          by_cases h2 : 2 ≤ (m : Int)
          · have := hr.1 h2; omega
          · have := hr.2 (by omega); omega
        obtain ⟨v, hv⟩ : ∃ v, lfAt (bwtL T) r = v := ⟨_, rfl⟩
        obtain ⟨bl, ol, hAl, hbl, hcl0⟩ := HLw.out r hrm
        rw [hv] at hcl0
        subst hAl
        have CS1 : Hid (∀ W, Below w6.heap.size w6 W → Calls Try.prog 24 #[.slice Aw m cw, .int .i64 (r : Int), .int .i64 (m : Int)] W fun e w' => e = .returned (.int .i64 (r : Int)) ∧ Below w6.heap.size w6 w') := Lib.hid fun W hW => by
          have h := implSteps_any Aw cw (bwtL T) (r : Int) (m : Int) W (HBw.out.below hW)
          rw [st_all HT8.out H3T.out (by rw [Hn.out, Hm.out]) hrm, HRl.out] at h
          exact h.mono fun _ _ h => ⟨h.1, below_then hW h.2⟩
        have CS2 : Hid (∀ W, Below w6.heap.size w6 W → Calls Try.prog 24 #[.slice Aw m cw, .int .i64 (r : Int), .int .i64 1] W fun e w' => e = .returned (.int .i64 (v : Int)) ∧ Below w6.heap.size w6 w') := Lib.hid fun W hW => by
          have h := implSteps_any Aw cw (bwtL T) (r : Int) 1 W (HBw.out.below hW)
          rw [st_one HT8.out H3T.out (by rw [Hn.out, Hm.out]; exact hrm), HRl.out, hv] at h
          exact h.mono fun _ _ h => ⟨h.1, below_then hW h.2⟩
        have HS : Hid (∀ W, Below w6.heap.size w6 W → W.cell? ⟨bl, ol + r, none⟩ = some (.int .i64 (v : Int))) := Lib.hid fun W hW => (hW.cell (p := ⟨bl, ol + r, none⟩) hbl).trans hcl0
        have inv : Below w6.heap.size w6 wr.drew := HBr.out.drew
        have hrm2 : (r : Int) < (m : Int) := by omega
        clear hv hcl0 hr hbl
        have x0 := HS.out _ inv
        go_wp2_with fail
        go_region_held3 (fun w' => w'.cell? ⟨bl, ol + r, none⟩ = some (.int .i64 (v : Int))) (first | exact HS.out _ inv | go_keep) (first | (go_at_call 24; (with_reducible refine Calls.mono (CS1.out _ inv) ?_); rintro e w8 ⟨rfl, inv2⟩; replace inv := inv2; clear inv2; replace x0 := HS.out _ inv) | (go_at_call 24; (with_reducible refine Calls.mono (CS2.out _ inv) ?_); rintro e w9 ⟨rfl, inv2⟩; replace inv := inv2; clear inv2; replace x0 := HS.out _ inv))
        have HF := Lib.hid (below_then HB.out inv)
        clear inv x0 CS1 CS2 HS
        go_wp2
        go_ret
        exact ⟨rfl, HF.out⟩
  · have t3 : decide (n ≤ 300) = false := by simpa using h3
    rw [t3]
    have HB := Lib.hid sc.below
    clear sc
    go_wp2
    go_ret
    exact ⟨rfl, HB.out⟩

end Go.Proofs.Ytkjelakdejbolaa
