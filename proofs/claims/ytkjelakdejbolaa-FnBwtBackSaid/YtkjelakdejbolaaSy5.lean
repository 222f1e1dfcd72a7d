/- BwtOf of the specification. -/
import Derived.Test.YtkjelakdejbolaaSfS2
import Derived.Test.YtkjelakdejbolaaBwtMath
import Derived.Test.YtkjelakdejbolaaSy1
import Derived.Test.YtkjelakdejbolaaAppI
namespace Go.Proofs.Ytkjelakdejbolaa
open Go.RowKit
set_option maxRecDepth 100000

theorem take_push {L : List Int} {k : Nat} {x : Int} (h : L[k]? = some x) : L.take k ++ [x] = L.take (k + 1) := by
  rw [List.take_add_one, h]
  rfl
theorem symB_zero (T : List Nat) : symB T 0 = 0 := rfl
theorem symB_pos {T : List Nat} {p x : Nat} (h : T[p]? = some x) : symB T (p + 1) = (x : Int) + 1 := by
  unfold symB
  rw [if_neg (by omega), Nat.add_sub_cancel, getD_nat h]

set_option maxHeartbeats 4000000 in
theorem specBwt_in (A : Option Addr) (n c : Nat) (L : List Nat) (w : World) (hL : Lies w B8 A L) (hA : Tidy A c) (h8 : ∀ x ∈ L, x < 2 ^ 8) (Hn : Hid (L.length = n)) (hn : n ≤ 300) (hc : n ≤ c) :
    Calls Try.prog 32 #[.slice A n c] w (NewI w (bwtL L)) := by
  have HL := Lib.hid hL
  have H8 := Lib.hid h8
  clear hL h8
  obtain ⟨m, hm⟩ : ∃ m, n + 1 = m := ⟨_, rfl⟩
  have HS := Lib.hid (specSuffixRows_in A n c L w HL.out hA Hn hn hc)
  go_enter Try.func32, Try.ntmps32
  go_wp2_with fail
  refine HS.out.mono ?_
  rintro e w2 ⟨Ar, cr, rfl, ho, hb⟩
  have hSl : ((sfx L).map Int.ofNat).length = m := by rw [List.length_map, sfx_len, Hn.out, hm]
  rw [hSl] at ho ⊢
  have HLr := Lib.hid (Lies.of_own ho)
  have HB2 := Lib.hid hb
  clear ho hb hSl HS
  have hO3 : (w2.alloc (Obj.cells #[] 3)).ownsRow w2.heap.size 3 1 (.slice (some ⟨w2.heap.size, 0, none⟩) 0 0) ([] : List Int).length (([] : List Int).map I) := World.ownsRow_lit w2 _ _ (Nat.le_refl _) (show 0 ≤ maxLen by decide) rfl
  have HO3 := Lib.hid hO3
  have HB3 : Hid (Below w2.heap.size w2 (w2.alloc (Obj.cells #[] 3))) := Lib.hid ((Below.refl _ _).alloc (Nat.le_refl _) _)
  clear hO3
  go_wp2
  generalize w2.alloc (Obj.cells #[] 3) = w3 at *
  go_loopw [4, 5] (fun v i wr => ∃ (k : Nat) (D : List Int), k ≤ m ∧ i = .int .i64 k ∧ Hid (D = (bwtL L).take k) ∧ Hid (wr.ownsRow w2.heap.size 3 1 v D.length (D.map I)) ∧ Hid (Below w2.heap.size w2 wr)) (fun _ i _ => m - (intOf i).toNat)
  case atStart => exact ⟨0, [], Nat.zero_le _, rfl, Lib.hid rfl, HO3, HB3⟩
  case round =>
    obtain ⟨k, D, hk, rfl, HD, HO, HB⟩ := hrel
    clear HO3 HB3
    obtain ⟨Ad, cd, rfl⟩ := own_slice HO.out
    have HDl : Hid (D.length = k) := Lib.hid (by rw [HD.out, List.length_take, bwtL_len, Hn.out]; omega)
    by_cases hlt : k < m
    · have hsz := HB.out.size
      obtain ⟨y, hy, hyn⟩ := sfx_at (t := L) (k := k) (by rw [Hn.out]; omega)
      rw [Hn.out] at hyn
      have HBw1 : Hid (Below w.heap.size w wr) := Lib.hid (below_then HB2.out HB.out)
      obtain ⟨b, o, hAr, hbl, hcx⟩ := (HLr.out.below HB.out) k (y : Int) (ofNat_at hy)
      subst hAr
      have HP : Hid (D ++ [symB L y] = (bwtL L).take (k + 1)) := Lib.hid (by rw [HD.out]; exact take_push (bwtL_at hy))
      have hkm2 : (k : Int) < (m : Int) := by omega
      by_cases h0 : y = 0
      · subst h0
        rw [symB_zero] at HP
        obtain ⟨E, hE⟩ : ∃ E, D ++ [(0 : Int)] = E := ⟨_, rfl⟩
        have HE1 := Lib.hid hE
        have HE2 : Hid (E = (bwtL L).take (k + 1)) := Lib.hid (by rw [← hE]; exact HP.out)
        clear hE HP hy
        go_wp2_with (at_builtin; refine wpList_pushI rfl _ _ rfl w2.heap.size _ _ _ rfl HO.out 0 rfl hsz (by have := HDl.out; omega) E HE1.out ?_)
        intro A4 c4 w4 ho4 hg4
        have HO4 := Lib.hid ho4
        have HB4 := Lib.hid (HB.out.trans (grown_below HO.out hg4 (Nat.le_refl _) hsz))
        clear ho4 hg4
        go_wp2
        go_roundw
        case rel => exact ⟨k + 1, E, by omega, by go_num, HE2, HO4, HB4⟩
        case measure => simp [intOf]; omega
      · obtain ⟨p, hp⟩ : ∃ p, y = p + 1 := ⟨y - 1, by omega⟩
        obtain ⟨b', o', x, hA', hbl', hx, hcx0⟩ := HL.out.at_ (i := p) (by rw [Hn.out]; omega)
        subst hA'
        have hx8 : x < 2 ^ 8 := H8.out x (List.mem_of_getElem? hx)
        have hct : wr.cell? ⟨b', o' + p, none⟩ = some (B8 x) := (HBw1.out.cell (p := ⟨b', o' + p, none⟩) hbl').trans hcx0
        rw [show symB L y = ((x + 1 : Nat) : Int) by rw [hp, symB_pos hx]; omega] at HP
        obtain ⟨v, hv⟩ : ∃ v, x + 1 = v := ⟨_, rfl⟩
        rw [hv] at HP
        obtain ⟨E, hE⟩ : ∃ E, D ++ [(v : Int)] = E := ⟨_, rfl⟩
        have HE1 := Lib.hid hE
        have HE2 : Hid (E = (bwtL L).take (k + 1)) := Lib.hid (by rw [← hE]; exact HP.out)
        have hy0 : ((y : Int) == 0) = false := by rw [beq_eq_false_iff_ne]; omega
        have hyi : IntKind.i64.wrap ((y : Int) - 1) = (p : Int) := by rw [IntWalk.i64_in _ (by omega)]; omega
        have hyi2 : (y : Int) - 1 = (p : Int) := by omega
        have hpn : p < n := by omega
        have hpn2 : (p : Int) < (n : Int) := by omega
        have hw1 : IntKind.i64.wrap ((x : Int) + 1) = (v : Int) := by rw [IntWalk.i64_in _ (by omega)]; omega
        have hw2 : IntKind.i64.wrap (x : Int) = (x : Int) := IntWalk.i64_in _ (by omega)
        clear hE HP hy hx hp hv hcx0
        go_wp2_with (at_builtin; refine wpList_pushI rfl _ _ rfl w2.heap.size _ _ _ rfl HO.out (v : Int) rfl hsz (by have := HDl.out; omega) E HE1.out ?_)
        intro A4 c4 w4 ho4 hg4
        have HO4 := Lib.hid ho4
        have HB4 := Lib.hid (HB.out.trans (grown_below HO.out hg4 (Nat.le_refl _) hsz))
        clear ho4 hg4
        go_wp2
        go_roundw
        case rel => exact ⟨k + 1, E, by omega, by go_num, HE2, HO4, HB4⟩
        case measure => simp [intOf]; omega
    · obtain rfl : m = k := by omega
      have HF : Hid (NewI w (bwtL L) (.returned (.slice Ad D.length cd)) wr) := Lib.hid (by
        have e : D = bwtL L := by rw [HD.out, List.take_of_length_le (by rw [bwtL_len, Hn.out]; omega)]
        rw [← e]
        exact ⟨Ad, cd, rfl, own_mono HO.out HB2.out.size, below_then HB2.out HB.out⟩)
      clear HO HB
      go_wp2
      go_ret
      exact HF.out

theorem specBwt_any (A : Option Addr) (c : Nat) (L : List Nat) (w : World) (hL : Lies w B8 A L) (hA : Tidy A c) (h8 : ∀ x ∈ L, x < 2 ^ 8) (hc : L.length ≤ c) :
    Calls Try.prog 32 #[.slice A L.length c] w (NewI w (bwtV L)) := by
  unfold bwtV
  by_cases h3 : L.length ≤ 300
  · rw [if_pos h3]
    exact specBwt_in A L.length c L w hL hA h8 (Lib.hid rfl) h3 hc
  · rw [if_neg h3]
    have HS := Lib.hid (specSuffixRows_any A c L w hL hA hc)
    have e : sfxV L = [] := by unfold sfxV; rw [if_neg h3]
    rw [e] at HS
    generalize L.length = n at *
    clear hL h3 e h8
    go_enter Try.func32, Try.ntmps32
    go_wp2_with fail
    refine HS.out.mono ?_
    rintro e w2 ⟨Ar, cr, rfl, ho, hb⟩
    have hO3 : (w2.alloc (Obj.cells #[] 3)).ownsRow w2.heap.size 3 1 (.slice (some ⟨w2.heap.size, 0, none⟩) 0 0) 0 [] := World.ownsRow_lit w2 _ _ (Nat.le_refl _) (show 0 ≤ maxLen by decide) rfl
    have HO3 := Lib.hid (own_mono hO3 hb.size)
    have HB3 : Hid (Below w.heap.size w (w2.alloc (Obj.cells #[] 3))) := Lib.hid (below_then hb ((Below.refl _ _).alloc (Nat.le_refl _) _))
    clear ho hb hO3 HS
    simp only [List.length_nil]
    go_wp2
    go_loopw [4, 5] (fun v i wr => v = .slice (some ⟨w2.heap.size, 0, none⟩) 0 0 ∧ i = .int .i64 ((0 : Nat) : Int) ∧ wr = w2.alloc (Obj.cells #[] 3)) (fun _ _ _ => 0)
    case atStart => exact ⟨rfl, rfl, rfl⟩
    case round =>
      obtain ⟨rfl, rfl, rfl⟩ := hrel
      go_wp2
      go_ret
      exact ⟨_, _, rfl, HO3.out, HB3.out⟩

end Go.Proofs.Ytkjelakdejbolaa
