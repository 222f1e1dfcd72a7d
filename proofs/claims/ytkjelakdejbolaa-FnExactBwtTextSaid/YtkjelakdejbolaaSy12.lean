/- BwtText of the specification. -/
import Derived.Test.YtkjelakdejbolaaSy11
import Derived.Test.YtkjelakdejbolaaSy5
import Derived.Test.YtkjelakdejbolaaSy3
import Derived.Test.YtkjelakdejbolaaSame3
namespace Go.Proofs.Ytkjelakdejbolaa
open Go.RowKit
set_option maxRecDepth 100000

set_option maxHeartbeats 800000 in
theorem specBt_bad (A : Option Addr) (n c : Nat) (L : List Int) (w : World) (hL : Lies w I A L) (Hn : Hid (L.length = n)) (h : symOk L = false ∨ n = 0) :
    Calls Try.prog 40 #[.slice A n c] w (BtEnd w L) := by
  have HC := Lib.hid (specSymsOk_any A c L w hL)
  have HF : Hid (btOk L = false) := Lib.hid (h.elim btOk_bad fun h => btOk_nil (Hn.out.trans h))
  rw [Hn.out] at HC
  clear hL
  go_enter Try.func40, Try.ntmps40
  go_wp2_with fail
  refine HC.out.mono ?_
  rintro e w1 ⟨rfl, rfl⟩
  by_cases hs : symOk L = true
  · rw [hs]
    have h0 : n = 0 := by
      rcases h with h | h
      · rw [h] at hs; cases hs
      · exact h
    subst h0
    clear h hs
    go_wp2
    go_ret2
    exact btEnd_no HF.out (Below.refl _ _)
  · rw [show symOk L = false by simpa using hs]
    clear h hs
    go_wp2
    go_ret2
    exact btEnd_no HF.out (Below.refl _ _)

set_option maxHeartbeats 8000000 in
theorem specBt_in (A : Option Addr) (n m c : Nat) (L : List Int) (w : World) (hL : Lies w I A L) (Hn : Hid (L.length = n)) (Hm : Hid (n = m + 1)) (hn : n ≤ 301) (HOk : Hid (symOk L = true)) :
    Calls Try.prog 40 #[.slice A n c] w (BtEnd w L) := by
  have HL := Lib.hid hL
  have HC := Lib.hid (specSymsOk_any A c L w hL)
  rw [Hn.out, HOk.out] at HC
  have HF := Lib.hid (specLf_in A n c L w hL Hn hn HOk)
  clear hL
  have HLm : Hid (L.length = m + 1) := Lib.hid (Hn.out.trans Hm.out)
  have hm := Hm.out
  have hn0 : ((n : Int) == 0) = false := by rw [beq_eq_false_iff_ne]; omega
  have hni : IntKind.i64.wrap ((n : Int) - 1) = (m : Int) := by rw [IntWalk.i64_in _ (by omega)]; omega
  have hni2 : (n : Int) - 1 = (m : Int) := by omega
  have hmw : IntKind.i64.wrap (m : Int) = (m : Int) := IntWalk.i64_in _ (by omega)
  have hm3 : m ≤ 300 := by omega
  have HSy := Lib.hid (syN_in HOk.out (by rw [HLm.out]; omega))
  have HIt := Lib.hid (lfIt_lt (L := L) (k := 0) (by rw [HLm.out]; omega))
  clear hm
  go_enter Try.func40, Try.ntmps40
  go_wp2_with fail
  refine HC.out.mono ?_
  rintro e w1 ⟨rfl, rfl⟩
  go_wp2_with fail
  refine HF.out.mono ?_
  rintro e w2 ⟨Ar, cr, rfl, ho, hb⟩
  rw [show ((List.range n).map fun k : Nat => (lfAt L k : Int)).length = n by rw [List.length_map, List.length_range]]
  have HLr : Hid (Lies w2 I Ar ((List.range n).map fun k : Nat => (lfAt L k : Int))) := Lib.hid (Lies.of_own ho)
  have HB2 := Lib.hid hb
  have HB3 : Hid (Below w2.heap.size w2 (w2.alloc (Obj.cells #[] 5))) := Lib.hid ((Below.refl _ _).alloc (Nat.le_refl _) _)
  have hO3 : (w2.alloc (Obj.cells #[] 5)).ownsRow w2.heap.size 5 1 (.slice (some ⟨w2.heap.size, 0, none⟩) 0 0) 0 ((backT L 0).map B8) := World.ownsRow_lit w2 _ _ (Nat.le_refl _) (show 0 ≤ maxLen by decide) rfl
  have HO3 := Lib.hid (own_mono hO3 hb.size)
  clear ho hb HF HC hO3
  go_wp2
  generalize w2.alloc (Obj.cells #[] 5) = w3 at *
  go_loopw [5, 6, 7] (fun v a i wr => ∃ j : Nat, j ≤ m ∧ i = .int .i64 j ∧ a = .int .i64 (lfIt L 0 j : Nat) ∧ Hid (∀ x < j, syN L x ≠ 0) ∧ Hid (wr.ownsRow w1.heap.size 5 1 v j ((backT L j).map B8)) ∧ Hid (Below w2.heap.size w2 wr)) (fun _ _ i _ => m - (intOf i).toNat)
  case atStart => exact ⟨0, Nat.zero_le _, rfl, rfl, Lib.hid fun x hx => by omega, HO3, HB3⟩
  case round =>
    obtain ⟨j, hj, rfl, rfl, HS, HO, HB⟩ := hrel
    clear HO3 HB3
    obtain ⟨Ad, cd, rfl⟩ := own_slice HO.out
    have HBr : Hid (Below w1.heap.size w1 wr) := Lib.hid (below_then HB2.out HB.out)
    have hkj := HIt.out j
    rw [Hn.out] at hkj
    by_cases hlt : j < m
    · obtain ⟨b, o, hA, hbl, hc0⟩ := HL.out (lfIt L 0 j) (syN L j) (by
        have hl := HIt.out j
        unfold syN
        rw [getD_int (List.getElem?_eq_getElem hl), List.getElem?_eq_getElem hl])
      subst hA
      have hc : wr.cell? ⟨b, o + lfIt L 0 j, none⟩ = some (I (syN L j)) := (HBr.out.cell (p := ⟨b, o + lfIt L 0 j, none⟩) hbl).trans hc0
      obtain ⟨k, hk⟩ : ∃ k, lfIt L 0 j = k := ⟨_, rfl⟩
      have HKj := Lib.hid hk
      have HK : Hid (lfIt L 0 (j + 1) = lfAt L k) := Lib.hid (by rw [lfIt, hk])
      rw [hk] at hkj hc ⊢
      have hkn : (k : Int) < (n : Int) := by omega
      clear hc0 hk
      by_cases h0 : syN L j = 0
      · have HStop := Lib.hid (bt_stop HOk.out HLm.out hj HS.out (.inr h0))
        have HEnd := Lib.hid fun hb => bt_end HLm.out hb hj (.inr h0)
        rw [h0] at hc
        clear h0 HB HS
        have HT8 := Lib.hid (backT_8 HOk.out (by rw [HLm.out]; omega) j)
        have HBw := Lib.hid (specBwt_in Ad j cd (backT L j) wr (Lies.of_own HO.out) (own_tidy HO.out) HT8.out (Lib.hid (backT_len L j)) (by omega) (row_cap HO.out).1)
        have HOw := Lib.hid HO.out
        clear HO
        go_wp2_with fail
        refine HBw.out.mono ?_
        rintro e w5 ⟨A5, c5, rfl, ho, hb⟩
        have HSm := Lib.hid (sameL A5 _ c5 c (bwtL (backT L j)) L w5 (Lies.of_own ho) (HL.out.below (below_then HBr.out hb)) (by rw [bwtL_len, backT_len]; omega))
        rw [Hn.out] at HSm
        have HB5 := Lib.hid (below_then HBr.out hb)
        have HO5 := Lib.hid (own_below HOw.out hb (Nat.le_refl _))
        clear ho hb HBw HOw
        go_wp2_with fail
        refine HSm.out.mono ?_
        rintro e w6 ⟨rfl, hdr⟩
        have HB6 : Hid (Below w1.heap.size w1 w6) := Lib.hid (by obtain ⟨q, rfl⟩ := hdr; exact below_dN HB5.out q)
        have HO6 : Hid (w6.ownsRow w1.heap.size 5 1 (.slice Ad j cd) j ((backT L j).map B8)) := Lib.hid (by obtain ⟨q, rfl⟩ := hdr; exact HO5.out)
        clear hdr HSm HO5 HB5
        by_cases heq : bwtL (backT L j) = L
        · have hY := HStop.out.1 heq
          have hjm := HEnd.out hY
          have HY := Lib.hid hY
          rw [decide_eq_true heq]
          have HLj : Hid (L.length = j + 1) := Lib.hid (by rw [hjm]; exact HLm.out)
          clear heq hY hjm
          go_wp2
          go_ret2
          exact btEnd_yes HLj.out HY.out HO6.out HB6.out
        · have HN : Hid (btOk L = false) := Lib.hid (by
            cases hb : btOk L
            · rfl
            · exact absurd (HStop.out.2 hb) heq)
          rw [decide_eq_false heq]
          clear heq
          go_wp2
          go_ret2
          exact btEnd_no HN.out HB6.out
      · obtain ⟨y, hy⟩ : ∃ y : Nat, syN L j = (y : Int) + 1 := ⟨(syN L j - 1).toNat, by have := (HSy.out j).1; omega⟩
        have hy8 : y < 256 := by have := (HSy.out j).2; omega
        have HS2 : Hid (∀ x < j + 1, syN L x ≠ 0) := Lib.hid fun x hx => by
          by_cases e : x = j
          · subst e; exact h0
          · exact HS.out x (by omega)
        have HT : Hid ([y] ++ backT L j = backT L (j + 1)) := Lib.hid (by rw [backT, show (syN L j - 1).toNat = y by omega]; rfl)
        rw [hy] at hc
        have hne : decide ((0 : Int) < (y : Int) + 1) = true := by rw [decide_eq_true_iff]; omega
        have hyw : IntKind.i64.wrap ((y : Int) + 1 - 1) = (y : Int) := by rw [IntWalk.i64_in _ (by omega)]; omega
        have hyw2 : (y : Int) + 1 - 1 = (y : Int) := by omega
        have hyw3 : IntKind.i64.wrap (y : Int) = (y : Int) := IntWalk.i64_in _ (by omega)
        have hyu : IntKind.u8.wrap (y : Int) = (y : Int) := IntWalk.u8_in _ (by omega)
        have HLit : Hid ((wr.alloc (Obj.cells #[.int .u8 (y : Int)] 5)).ownsRow wr.heap.size 5 1 (.slice (some ⟨wr.heap.size, 0, none⟩) 1 1) [y].length ([y].map B8)) := Lib.hid (World.ownsRow_lit wr _ _ (Nat.le_refl _) (show 1 ≤ maxLen by decide) rfl)
        have HBA : Hid (Below wr.heap.size wr (wr.alloc (Obj.cells #[.int .u8 (y : Int)] 5))) := Lib.hid ((Below.refl _ _).alloc (Nat.le_refl _) _)
        have HLt : Hid (Lies (wr.alloc (Obj.cells #[.int .u8 (y : Int)] 5)) B8 Ad (backT L j)) := Lib.hid (Lies.below (Lies.of_own HO.out) HBA.out)
        have HTi : Hid (Tidy Ad cd) := Lib.hid (own_tidy HO.out)
        have HTl := Lib.hid (backT_len L j)
        obtain ⟨D, hD⟩ : ∃ D, backT L j = D := ⟨_, rfl⟩
        rw [hD] at HLt HT HTl
        obtain ⟨E, hE⟩ : ∃ E, backT L (j + 1) = E := ⟨_, rfl⟩
        have HE := Lib.hid hE
        have HEl : Hid (E.length = j + 1) := Lib.hid (by rw [← hE, backT_len])
        rw [hE] at HT
        have hsz := HBr.out.size
        have hszA : wr.heap.size ≤ (wr.alloc (Obj.cells #[.int .u8 (y : Int)] 5)).heap.size := HBA.out.size
        obtain ⟨br, or, hAr, hblr, hcr0⟩ := HLr.out k (lfAt L k : Int) (by rw [List.getElem?_map, List.getElem?_range hkj]; rfl)
        subst hAr
        clear hy h0 hD hE HO HS
        go_wp2_with (at_builtin; refine wpList_append_bytes _ rfl _ _ rfl wr.heap.size _ [y] rfl HLit.out Ad cd D (by show Value.slice Ad j cd = _; rw [HTl.out]) HLt.out HTi.out E HT.out (by have := HTl.out; simp; omega) hszA ?_)
        intro A4 c4 w4 ho4 hg4
        have hb4 : Below wr.heap.size wr w4 := HBA.out.trans (grown_below HLit.out hg4 (Nat.le_refl _) hszA)
        have hcr : w4.cell? ⟨br, or + k, none⟩ = some (I (lfAt L k : Int)) := ((below_then HB.out hb4).cell (p := ⟨br, or + k, none⟩) hblr).trans hcr0
        have HB4 : Hid (Below w2.heap.size w2 w4) := Lib.hid (below_then HB.out hb4)
        have HO4 : Hid (w4.ownsRow w1.heap.size 5 1 (.slice A4 E.length c4) (j + 1) ((backT L (j + 1)).map B8)) := Lib.hid (by
          have h := own_mono ho4 hsz
          rw [HE.out]
          have h2 := HEl.out
          rw [← h2]
          exact h)
        clear ho4 hg4 hb4 hcr0 HB HBA HLit HLt HTi
        go_wp2
        go_roundw
        case rel => exact ⟨j + 1, by omega, by go_num, by rw [HK.out], HS2, HO4, HB4⟩
        case measure => simp [intOf]; omega
    · have HStop := Lib.hid (bt_stop HOk.out HLm.out hj HS.out (.inl (by omega)))
      have HEnd := Lib.hid fun hb => bt_end HLm.out hb hj (.inl (by omega : j = m))
      clear HB HS
      have HT8 := Lib.hid (backT_8 HOk.out (by rw [HLm.out]; omega) j)
      have HBw := Lib.hid (specBwt_in Ad j cd (backT L j) wr (Lies.of_own HO.out) (own_tidy HO.out) HT8.out (Lib.hid (backT_len L j)) (by omega) (row_cap HO.out).1)
      have HOw := Lib.hid HO.out
      clear HO
      go_wp2_with fail
      refine HBw.out.mono ?_
      rintro e w5 ⟨A5, c5, rfl, ho, hb⟩
      have HSm := Lib.hid (sameL A5 _ c5 c (bwtL (backT L j)) L w5 (Lies.of_own ho) (HL.out.below (below_then HBr.out hb)) (by rw [bwtL_len, backT_len]; omega))
      rw [Hn.out] at HSm
      have HB5 := Lib.hid (below_then HBr.out hb)
      have HO5 := Lib.hid (own_below HOw.out hb (Nat.le_refl _))
      clear ho hb HBw HOw
      go_wp2_with fail
      refine HSm.out.mono ?_
      rintro e w6 ⟨rfl, hdr⟩
      have HB6 : Hid (Below w1.heap.size w1 w6) := Lib.hid (by obtain ⟨q, rfl⟩ := hdr; exact below_dN HB5.out q)
      have HO6 : Hid (w6.ownsRow w1.heap.size 5 1 (.slice Ad j cd) j ((backT L j).map B8)) := Lib.hid (by obtain ⟨q, rfl⟩ := hdr; exact HO5.out)
      clear hdr HSm HO5 HB5
      by_cases heq : bwtL (backT L j) = L
      · have hY := HStop.out.1 heq
        have hjm := HEnd.out hY
        have HY := Lib.hid hY
        rw [decide_eq_true heq]
        have HLj : Hid (L.length = j + 1) := Lib.hid (by rw [hjm]; exact HLm.out)
        clear heq hY hjm
        go_wp2
        go_ret2
        exact btEnd_yes HLj.out HY.out HO6.out HB6.out
      · have HN : Hid (btOk L = false) := Lib.hid (by
          cases hb : btOk L
          · rfl
          · exact absurd (HStop.out.2 hb) heq)
        rw [decide_eq_false heq]
        clear heq
        go_wp2
        go_ret2
        exact btEnd_no HN.out HB6.out

theorem specBt_any (A : Option Addr) (c : Nat) (L : List Int) (w : World) (hL : Lies w I A L) :
    Calls Try.prog 40 #[.slice A L.length c] w (BtEnd w L) := by
  by_cases h : symOk L = false ∨ L.length = 0
  · exact specBt_bad A L.length c L w hL (Lib.hid rfl) h
  · have h1 : symOk L = true := by
      cases hs : symOk L
      · exact absurd (.inl hs) h
      · rfl
    have h2 : L.length ≠ 0 := fun e => h (.inr e)
    exact specBt_in A L.length (L.length - 1) c L w hL (Lib.hid rfl) (Lib.hid (by omega)) (symOk_len h1) (Lib.hid h1)

end Go.Proofs.Ytkjelakdejbolaa
