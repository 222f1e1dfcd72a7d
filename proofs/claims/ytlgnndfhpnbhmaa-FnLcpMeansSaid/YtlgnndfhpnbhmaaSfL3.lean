/- LcpRows of the specification. -/
import Derived.Test.YtlgnndfhpnbhmaaSfL2
import Derived.Deep.RegionLaw
namespace Go.Proofs.Ytlgnndfhpnbhmaa
open Go.RowKit
set_option maxRecDepth 100000

theorem lcpK_succ (L : List Nat) (k : Nat) (v : Int) (h : lcpAt L k = v) : (List.range k).map (lcpAt L) ++ [v] = (List.range (k + 1)).map (lcpAt L) := by
  rw [List.range_succ, List.map_append, ← h]
  rfl

set_option maxHeartbeats 8000000 in
theorem specLcpRows_in (A : Option Addr) (n c : Nat) (L : List Nat) (w : World) (hL : Lies w B8 A L) (hA : Tidy A c) (Hn : Hid (L.length = n)) (hn : n ≤ 300) (hc : n ≤ c) :
    Calls Try.prog 38 #[.slice A n c] w (NewI w ((List.range (n + 1)).map (lcpAt L))) := by
  have HL := Lib.hid hL
  clear hL
  obtain ⟨m, hm⟩ : ∃ m, n + 1 = m := ⟨_, rfl⟩
  have HS := Lib.hid (specSuffixRows_in A n c L w HL.out hA Hn hn hc)
  go_enter Try.func38, Try.ntmps38
  go_wp2_with fail
  refine HS.out.mono ?_
  rintro e w2 ⟨Ar, cr, rfl, ho, hb⟩
  have hSl : ((sfx L).map Int.ofNat).length = m := by rw [List.length_map, sfx_len, Hn.out, hm]
  rw [hSl] at ho ⊢
  have HLr := Lib.hid (Lies.of_own ho)
  have HB2 := Lib.hid hb
  clear ho hb hSl HS
  have hO3 : (w2.alloc (Obj.cells #[] 3)).ownsRow w2.heap.size 3 1 (.slice (some ⟨w2.heap.size, 0, none⟩) 0 0) ([] : List Int).length (([] : List Int).map I) := World.ownsRow_lit w2 _ _ (Nat.le_refl _) (show 0 ≤ maxLen by decide) rfl
  have HO3 := Lib.hid hO3
  have HB3 : Hid (Below w2.heap.size w2 (w2.alloc (Obj.cells #[] 3))) := Lib.hid ((Below.refl _ _).alloc (Nat.le_refl _) _)
  clear hO3
  go_wp2
  generalize w2.alloc (Obj.cells #[] 3) = w3 at *
  go_loopw [4, 5] (fun v i wr => ∃ (k : Nat) (D : List Int), k ≤ m ∧ D.length = k ∧ i = .int .i64 k ∧ Hid (D = (List.range k).map (lcpAt L)) ∧ Hid (wr.ownsRow w2.heap.size 3 1 v D.length (D.map I)) ∧ Hid (Below w2.heap.size w2 wr)) (fun _ i _ => m - (intOf i).toNat)
  case atStart => exact ⟨0, [], Nat.zero_le _, rfl, rfl, Lib.hid rfl, HO3, HB3⟩
  case round =>
    obtain ⟨k, D, hk, hD, rfl, HD, HO, HB⟩ := hrel
    clear HO3 HB3
    obtain ⟨Ad, cd, rfl⟩ := own_slice HO.out
    have HDl := Lib.hid hD
    clear hD
    by_cases hlt : k < m
    · have hsz := HB.out.size
      by_cases h0 : k = 0
      · subst h0
        have HE : Hid (D ++ [0] = (List.range 1).map (lcpAt L)) := Lib.hid (by rw [HD.out]; exact lcpK_succ L 0 0 rfl)
        obtain ⟨E, hE⟩ : ∃ E, (List.range 1).map (lcpAt L) = E := ⟨_, rfl⟩
        have hEl : E.length = 1 := by rw [← hE]; rfl
        have HE1 := Lib.hid hE
        rw [hE] at HE
        clear hE
        go_wp2_with (at_builtin; refine wpList_pushI rfl _ _ rfl w2.heap.size _ _ _ rfl HO.out 0 rfl hsz (by have := HDl.out; omega) E HE.out ?_)
        intro A4 c4 w4 ho4 hg4
        have HO4 := Lib.hid ho4
        have HB4 := Lib.hid (HB.out.trans (grown_below HO.out hg4 (Nat.le_refl _) hsz))
        clear ho4 hg4
        go_wp2
        go_roundw
        case rel => exact ⟨1, E, by omega, hEl, by go_num, Lib.hid HE1.out.symm, by rw [hEl]; exact HO4, HB4⟩
        case measure => simp [intOf]; omega
      · obtain ⟨p, hp⟩ : ∃ p, k = p + 1 := ⟨k - 1, by omega⟩
        obtain ⟨x, hx, hxn⟩ := sfx_at (t := L) (k := p) (by rw [Hn.out]; omega)
        obtain ⟨y, hy, hyn⟩ := sfx_at (t := L) (k := k) (by rw [Hn.out]; omega)
        rw [Hn.out] at hxn hyn
        have HBw1 : Hid (Below w.heap.size w wr) := Lib.hid (below_then HB2.out HB.out)
        obtain ⟨b, o, hAr, hbl, hcx0⟩ := (HLr.out.below HB.out) p (x : Int) (ofNat_at hx)
        obtain ⟨b', o', hAr', _, hcy0⟩ := (HLr.out.below HB.out) k (y : Int) (ofNat_at hy)
        subst hAr
        cases hAr'
        obtain ⟨A1, hs1, hL1, hA1⟩ := slice_drop Try.elemBytes Try.sizeByte A n c L x wr Hn (HL.out.below HBw1.out) hA hxn hc
        obtain ⟨A2, hs2, hL2, hA2⟩ := slice_drop Try.elemBytes Try.sizeByte A n c L y wr Hn (HL.out.below HBw1.out) hA hyn hc
        have HC := Lib.hid (specCommon A1 A2 (c - x) (c - y) (L.drop x) (L.drop y) wr.drew hL1 hL2 (by rw [List.length_drop, Hn.out]; omega))
        obtain ⟨v, hv⟩ : ∃ v, cpl (L.drop x) (L.drop y) = v := ⟨_, rfl⟩
        have HV : Hid (lcpAt L k = (v : Int)) := Lib.hid (by
          unfold lcpAt
          rw [if_neg (by omega), show k - 1 = p by omega, getM hx, getM hy, hv])
        rw [hv] at HC
        obtain ⟨E, hE⟩ : ∃ E, (List.range (k + 1)).map (lcpAt L) = E := ⟨_, rfl⟩
        have hEl : E.length = k + 1 := by rw [← hE]; simp
        have HE : Hid (D ++ [(v : Int)] = E) := Lib.hid (by rw [HD.out, ← hE]; exact lcpK_succ L k v HV.out)
        have HE1 := Lib.hid hE
        have hki : IntKind.i64.wrap ((k : Int) - 1) = (p : Int) := by rw [IntWalk.i64_in _ (by omega)]; omega
        have hki2 : (k : Int) - 1 = (p : Int) := by omega
        have hki3 : IntKind.i64.wrap (p : Int) = (p : Int) := IntWalk.i64_in _ (by omega)
        have hk0 : ((k : Int) == 0) = false := by rw [beq_eq_false_iff_ne]; omega
        have hpm : p < m := by omega
        have hpm2 : (p : Int) < (m : Int) := by omega
        have hkm2 : (k : Int) < (m : Int) := by omega
        have Hp := Lib.hid hp
        clear hL1 hL2 hA1 hA2 hx hy hv hp hE
        generalize L.drop x = D1 at *
        generalize L.drop y = D2 at *
        go_wp2
        go_region_law (first | (go_simp; go_at_call 57; (with_reducible refine Calls.mono HC.out ?_); rintro e w5 ⟨rfl, q, rfl⟩) | (refine step_push1 rfl (.tmp 20) (.tmp 35) rfl w2.heap.size _ (.slice Ad D.length cd) D rfl ?_ (v : Int) rfl hsz (by have := HDl.out; omega) E HE.out ?_; (exact HO.out); intro A7 c7 w7 ho7 hg7))
        all_goals
          have HO7 := Lib.hid ho7
          have HB7 := Lib.hid ((below_dN HB.out (1 + q)).trans (grown_below (w := wr.drewN (1 + q)) HO.out hg7 (Nat.le_refl _) hsz))
          clear ho7 hg7 HO HB
          go_wp2
          go_roundw
          case rel => exact ⟨k + 1, E, by omega, hEl, by go_num, Lib.hid HE1.out.symm, by have h := HO7; rw [hEl] at h ⊢; exact h, HB7⟩
          case measure => simp [intOf]; omega
    · obtain rfl : m = k := by omega
      have HF : Hid (NewI w ((List.range (n + 1)).map (lcpAt L)) (.returned (.slice Ad D.length cd)) wr) := Lib.hid (by
        rw [hm, ← HD.out]
        exact ⟨Ad, cd, rfl, own_mono HO.out HB2.out.size, below_then HB2.out HB.out⟩)
      clear HO HB
      go_wp2
      go_ret
      exact HF.out

theorem specLcpRows_any (A : Option Addr) (c : Nat) (L : List Nat) (w : World) (hL : Lies w B8 A L) (hA : Tidy A c) (hc : L.length ≤ c) :
    Calls Try.prog 38 #[.slice A L.length c] w (NewI w (lcpV L)) := by
  unfold lcpV
  by_cases h3 : L.length ≤ 300
  · rw [if_pos h3]
    exact specLcpRows_in A L.length c L w hL hA (Lib.hid rfl) h3 hc
  · rw [if_neg h3]
    have HS := Lib.hid (specSuffixRows_any A c L w hL hA hc)
    have e : sfxV L = [] := by unfold sfxV; rw [if_neg h3]
    rw [e] at HS
    have HLn := Lib.hid h3
    generalize L.length = n at *
    clear hL h3 e
    go_enter Try.func38, Try.ntmps38
    go_wp2_with fail
    refine HS.out.mono ?_
    rintro e w2 ⟨Ar, cr, rfl, ho, hb⟩
    have HB2 := Lib.hid hb
    have hO3 : (w2.alloc (Obj.cells #[] 3)).ownsRow w2.heap.size 3 1 (.slice (some ⟨w2.heap.size, 0, none⟩) 0 0) 0 [] := World.ownsRow_lit w2 _ _ (Nat.le_refl _) (show 0 ≤ maxLen by decide) rfl
    have HO3 := Lib.hid (own_mono hO3 hb.size)
    have HB3 : Hid (Below w.heap.size w (w2.alloc (Obj.cells #[] 3))) := Lib.hid (below_then hb ((Below.refl _ _).alloc (Nat.le_refl _) _))
    clear ho hb hO3 HS
    simp only [List.length_nil]
    go_wp2
    go_loopw [4, 5] (fun v i wr => v = .slice (some ⟨w2.heap.size, 0, none⟩) 0 0 ∧ i = .int .i64 ((0 : Nat) : Int) ∧ wr = w2.alloc (Obj.cells #[] 3)) (fun _ _ _ => 0)
    case atStart => exact ⟨rfl, rfl, rfl⟩
    case round =>
      obtain ⟨rfl, rfl, rfl⟩ := hrel
      go_wp2
      go_ret
      exact ⟨_, _, rfl, HO3.out, HB3.out⟩

end Go.Proofs.Ytlgnndfhpnbhmaa
