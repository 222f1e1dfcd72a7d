/- BwtText of the program. -/
import Derived.Test.YtkjelakdejbolaaSy9
import Derived.Test.YtkjelakdejbolaaBtMath
import Derived.Test.YtkjelakdejbolaaVar1
import Derived.Test.YtkjelakdejbolaaNewI
namespace Go.Proofs.Ytkjelakdejbolaa
open Go.RowKit
set_option maxRecDepth 100000

/-- What BwtText returns: a new text and whether there is one. -/
def BtEnd (w : World) (L : List Int) (e : Ending) (w' : World) : Prop :=
  ∃ A c, e = .returned (.tuple #[.slice A (btV L).length c, .bool (btOk L)]) ∧ w'.ownsRow w.heap.size 5 1 (.slice A (btV L).length c) (btV L).length ((btV L).map B8) ∧ Below w.heap.size w w'
theorem btEnd_no {w w' : World} {L : List Int} (h : btOk L = false) (hb : Below w.heap.size w w') : BtEnd w L (.returned (.tuple #[.slice none 0 0, .bool false])) w' := by
  unfold BtEnd
  rw [h, btV_no h]
  exact ⟨none, 0, rfl, World.ownsRow_nil _ _ _ _, hb⟩
theorem btEnd_yes {w w' : World} {L : List Int} {m : Nat} {A : Option Addr} {c : Nat} (hn : L.length = m + 1) (h : btOk L = true) (ho : w'.ownsRow w.heap.size 5 1 (.slice A m c) m ((backT L m).map B8)) (hb : Below w.heap.size w w') :
    BtEnd w L (.returned (.tuple #[.slice A m c, .bool true])) w' := by
  unfold BtEnd
  rw [h, btV_yes hn h, backT_len]
  exact ⟨A, c, rfl, ho, hb⟩
theorem btOk_bad {L : List Int} (h : symOk L = false) : btOk L = false := by
  unfold btOk
  rw [h]
  rfl
theorem btOk_nil {L : List Int} (h : L.length = 0) : btOk L = false := by
  unfold btOk
  simp [h]
theorem btOk_mid {L : List Int} {m j : Nat} (hn : L.length = m + 1) (hj : j < m) (h : syN L j = 0) : btOk L = false := by
  cases hb : btOk L
  · rfl
  · exact absurd h (((btOk_iff hn).1 hb).2.1 j hj)
theorem btOk_last {L : List Int} {m : Nat} (hn : L.length = m + 1) (h : syN L m ≠ 0) : btOk L = false := by
  cases hb : btOk L
  · rfl
  · exact absurd ((btOk_iff hn).1 hb).2.2 h

set_option maxHeartbeats 800000 in
theorem implBt_bad (A : Option Addr) (n c : Nat) (L : List Int) (w : World) (hL : Lies w I A L) (Hn : Hid (L.length = n)) (h : symOk L = false ∨ n = 0) :
    Calls Try.prog 18 #[.slice A n c] w (BtEnd w L) := by
  have HC := Lib.hid (implSymsOk_any A c L w hL)
  have HF : Hid (btOk L = false) := Lib.hid (h.elim btOk_bad fun h => btOk_nil (Hn.out.trans h))
  rw [Hn.out] at HC
  clear hL
  go_enter Try.func18, Try.ntmps18
  go_wp2_with fail
  refine HC.out.mono ?_
  rintro e w1 ⟨rfl, rfl⟩
  by_cases hs : symOk L = true
  · rw [hs]
    have h0 : n = 0 := by
      rcases h with h | h
      · rw [h] at hs; cases hs
      · exact h
    subst h0
    clear h hs
    go_wp2
    go_ret2
    exact btEnd_no HF.out (Below.refl _ _)
  · rw [show symOk L = false by simpa using hs]
    clear h hs
    go_wp2
    go_ret2
    exact btEnd_no HF.out (Below.refl _ _)

set_option maxHeartbeats 4000000 in
theorem implBt_in (A : Option Addr) (n m c : Nat) (L : List Int) (w : World) (hL : Lies w I A L) (Hn : Hid (L.length = n)) (Hm : Hid (n = m + 1)) (hn : n ≤ 301) (HOk : Hid (symOk L = true)) :
    Calls Try.prog 18 #[.slice A n c] w (BtEnd w L) := by
  have HL := Lib.hid hL
  have HC := Lib.hid (implSymsOk_any A c L w hL)
  rw [Hn.out, HOk.out] at HC
  have HF := Lib.hid (implLf_in A n c L w hL Hn hn HOk)
  clear hL
  have HLm : Hid (L.length = m + 1) := Lib.hid (Hn.out.trans Hm.out)
  have hm := Hm.out
  have hn0 : ((n : Int) == 0) = false := by rw [beq_eq_false_iff_ne]; omega
  have hni : IntKind.i64.wrap ((n : Int) - 1) = (m : Int) := by rw [IntWalk.i64_in _ (by omega)]; omega
  have hni2 : (n : Int) - 1 = (m : Int) := by omega
  have hmw : IntKind.i64.wrap (m : Int) = (m : Int) := IntWalk.i64_in _ (by omega)
  have hm3 : m ≤ 300 := by omega
  have hmw1 : IntKind.i64.wrap ((m : Int) - 1) = (m : Int) - 1 := IntWalk.i64_in _ (by omega)
  have hmk := fun W => run_make_row' (P := Try.prog) 22 5 (.int .u8 0) 1 Try.underlying22 Try.infoU8 rfl .i64 .i64 m (by omega) (by omega) W
  have HSy := Lib.hid (syN_in HOk.out (by rw [HLm.out]; omega))
  have HIt := Lib.hid (lfIt_lt (L := L) (k := 0) (by rw [HLm.out]; omega))
  clear hm
  go_enter Try.func18, Try.ntmps18
  go_wp2_with fail
  refine HC.out.mono ?_
  rintro e w1 ⟨rfl, rfl⟩
  go_wp2_with fail
  refine HF.out.mono ?_
  rintro e w2 ⟨Ar, cr, rfl, ho, hb⟩
  rw [show ((List.range n).map fun k : Nat => (lfAt L k : Int)).length = n by rw [List.length_map, List.length_range]]
  have HLr : Hid (Lies w2 I Ar ((List.range n).map fun k : Nat => (lfAt L k : Int))) := Lib.hid (Lies.of_own ho)
  have HB2 := Lib.hid hb
  obtain ⟨g, hg⟩ : ∃ g, w2.heap.size = g := ⟨_, rfl⟩
  have hB3 : Below g w2 (w2.alloc (.cells (madeCells #[Value.int .u8 0] m) 5)) := by rw [← hg]; exact (Below.refl _ _).alloc (Nat.le_refl _) _
  have HB3 := Lib.hid hB3
  have HO3 : Hid ((w2.alloc (.cells (madeCells #[Value.int .u8 0] m) 5)).ownsRow g 5 1 (.slice (some ⟨g, 0, none⟩) m m) m ((tK L m 0).map B8)) := Lib.hid (by
    have e : (tK L m 0).map B8 = List.replicate m (.int .u8 0) := by rw [tK_zero]; simp
    rw [e, ← toList_madeCells_one, ← hg]
    exact World.ownsRow_lit w2 _ _ (Nat.le_refl _) (by unfold maxLen; omega) (by simp [size_madeCells]))
  have Hg := Lib.hid hg
  clear hB3 ho hb HF HC
  go_wp2
  clear hmk
  generalize w2.alloc (.cells (madeCells #[Value.int .u8 0] m) 5) = w3 at *
  clear hg
  go_loopw [6, 7] (fun a i wr => ∃ (j : Nat) (q : Int), j ≤ m ∧ i = .int .i64 q ∧ Hid (q = (m : Int) - 1 - j) ∧ a = .int .i64 (lfIt L 0 j : Nat) ∧ Hid (∀ x < j, syN L x ≠ 0) ∧ Hid (wr.ownsRow g 5 1 (.slice (some ⟨g, 0, none⟩) m m) m ((tK L m j).map B8)) ∧ Hid (Below g w2 wr)) (fun _ i _ => (intOf i + 1).toNat)
  case atStart => exact ⟨0, _, Nat.zero_le _, rfl, Lib.hid (by omega), rfl, Lib.hid fun x hx => by omega, HO3, HB3⟩
  case round =>
    obtain ⟨j, q, hj, rfl, HQ, rfl, HS, HO, HB⟩ := hrel
    clear HO3 HB3
    have HBw : Hid (Below w2.heap.size w2 wr) := Lib.hid (by rw [Hg.out]; exact HB.out)
    have HBw1 : Hid (Below w1.heap.size w1 wr) := Lib.hid (below_then HB2.out HBw.out)
    have hkj := HIt.out j
    rw [Hn.out] at hkj
    obtain ⟨b, o, hA, hbl, hc0⟩ := HL.out (lfIt L 0 j) (syN L j) (by
      have hl := HIt.out j
      unfold syN
      rw [getD_int (List.getElem?_eq_getElem hl), List.getElem?_eq_getElem hl])
    subst hA
    have hc : wr.cell? ⟨b, o + lfIt L 0 j, none⟩ = some (I (syN L j)) := (HBw1.out.cell (p := ⟨b, o + lfIt L 0 j, none⟩) hbl).trans hc0
    obtain ⟨br, or, hAr, hblr, hcr0⟩ := HLr.out (lfIt L 0 j) (lfAt L (lfIt L 0 j) : Int) (by rw [List.getElem?_map, List.getElem?_range hkj]; rfl)
    subst hAr
    have hcr : wr.cell? ⟨br, or + lfIt L 0 j, none⟩ = some (I (lfAt L (lfIt L 0 j) : Int)) := (HBw.out.cell (p := ⟨br, or + lfIt L 0 j, none⟩) hblr).trans hcr0
    clear hcr0
    obtain ⟨k, hk⟩ : ∃ k, lfIt L 0 j = k := ⟨_, rfl⟩
    have HK : Hid (lfIt L 0 (j + 1) = lfAt L k) := Lib.hid (by rw [lfIt, hk])
    rw [hk] at hkj hc hcr ⊢
    have hkn : (k : Int) < (n : Int) := by omega
    clear hc0 hk
    by_cases hlt : j < m
    · obtain ⟨p, hp⟩ : ∃ p, p + 1 + j = m := ⟨m - 1 - j, by omega⟩
      have hq := HQ.out
      obtain rfl : q = (p : Int) := by omega
      have hge : decide ((0 : Int) ≤ (p : Int)) = true := by simp
      by_cases h0 : syN L j = 0
      · have HN := Lib.hid (btOk_mid HLm.out hlt h0)
        rw [h0] at hc
        clear hq hp h0
        go_wp2
        go_ret2
        exact btEnd_no HN.out HBw1.out
      · obtain ⟨y, hy⟩ : ∃ y : Nat, syN L j = (y : Int) + 1 := ⟨(syN L j - 1).toNat, by have := (HSy.out j).1; omega⟩
        have hy8 : y < 256 := by have := (HSy.out j).2; omega
        have HT := Lib.hid (tK_succ L hp)
        rw [show (syN L j - 1).toNat = y by omega] at HT
        have HS2 : Hid (∀ x < j + 1, syN L x ≠ 0) := Lib.hid fun x hx => by
          by_cases e : x = j
          · subst e; exact h0
          · exact HS.out x (by omega)
        rw [hy] at hc
        have hne : (((y : Int) + 1) == 0) = false := by rw [beq_eq_false_iff_ne]; omega
        have hyw : IntKind.i64.wrap ((y : Int) + 1 - 1) = (y : Int) := by rw [IntWalk.i64_in _ (by omega)]; omega
        have hyw2 : (y : Int) + 1 - 1 = (y : Int) := by omega
        have hyw3 : IntKind.i64.wrap (y : Int) = (y : Int) := IntWalk.i64_in _ (by omega)
        have hyu : IntKind.u8.wrap (y : Int) = (y : Int) := IntWalk.u8_in _ (by omega)
        have hpm : p < m := by omega
        have hpm2 : (p : Int) < (m : Int) := by omega
        obtain ⟨z, hz⟩ : ∃ z, ((tK L m j).map B8)[p]? = some z := ⟨_, List.getElem?_eq_getElem (by rw [List.length_map, tK_len L hj]; exact hpm)⟩
        have hd : wr.cell? ⟨g, p, none⟩ = some z := (HO.out.cellAt p (by omega)).trans hz
        have hf := HO.out.frozenAt p
        have HO4 : Hid ((wr.setCell ⟨g, p, none⟩ (.int .u8 (y : Int))).ownsRow g 5 1 (.slice (some ⟨g, 0, none⟩) m m) m ((tK L m (j + 1)).map B8)) := Lib.hid (by
          have h1 := (HO.out.stored p (.int .u8 (y : Int))).1
          rw [← HT.out, List.map_set]
          exact h1)
        have HB4 := Lib.hid (HB.out.setCell (p := ⟨g, p, none⟩) (Nat.le_refl _) (.int .u8 (y : Int)))
        have hgne : br ≠ g := by have := Hg.out; omega
        have hcr4 : (wr.setCell ⟨g, p, none⟩ (.int .u8 (y : Int))).cell? ⟨br, or + k, none⟩ = some (I (lfAt L k : Int)) := by
          rw [← hcr]
          unfold World.cell?
          rw [heap_setCell_other wr ⟨g, p, none⟩ br _ hgne]
        have hq1 : IntKind.i64.wrap ((p : Int) - 1) = (p : Int) - 1 := IntWalk.i64_in _ (by omega)
        have HQ2 : Hid ((p : Int) - 1 = (m : Int) - 1 - ((j + 1 : Nat) : Int)) := Lib.hid (by omega)
        clear hq hp hy hz h0 HO HB HT HS HQ
        go_wp2
        go_roundw
        case rel => exact ⟨j + 1, (p : Int) - 1, by omega, by go_num, HQ2, by rw [HK.out], HS2, HO4, HB4⟩
        case measure => simp [intOf]
    · obtain rfl : j = m := by omega
      have hq := HQ.out
      obtain rfl : q = -1 := by omega
      by_cases h0 : syN L j = 0
      · have HY := Lib.hid ((btOk_iff HLm.out).2 ⟨HOk.out, HS.out, h0⟩)
        rw [h0] at hc
        have HOf : Hid (wr.ownsRow w1.heap.size 5 1 (.slice (some ⟨g, 0, none⟩) j j) j ((backT L j).map B8)) := Lib.hid (by
          have h := HO.out
          rw [tK_all] at h
          exact own_mono h (by have := HB2.out.size; rw [← Hg.out]; exact this))
        clear hq h0 HO HB HQ HS
        go_wp2
        go_ret2
        exact btEnd_yes HLm.out HY.out HOf.out HBw1.out
      · have HN := Lib.hid (btOk_last HLm.out h0)
        have hne : (syN L j != 0) = true := by rw [bne_iff_ne]; exact h0
        clear hq h0 HO HB HQ HS
        go_wp2
        go_ret2
        exact btEnd_no HN.out HBw1.out

theorem implBt_any (A : Option Addr) (c : Nat) (L : List Int) (w : World) (hL : Lies w I A L) :
    Calls Try.prog 18 #[.slice A L.length c] w (BtEnd w L) := by
  by_cases h : symOk L = false ∨ L.length = 0
  · exact implBt_bad A L.length c L w hL (Lib.hid rfl) h
  · have h1 : symOk L = true := by
      cases hs : symOk L
      · exact absurd (.inl hs) h
      · rfl
    have h2 : L.length ≠ 0 := fun e => h (.inr e)
    exact implBt_in A L.length (L.length - 1) c L w hL (Lib.hid rfl) (Lib.hid (by omega)) (symOk_len h1) (Lib.hid h1)

end Go.Proofs.Ytkjelakdejbolaa
