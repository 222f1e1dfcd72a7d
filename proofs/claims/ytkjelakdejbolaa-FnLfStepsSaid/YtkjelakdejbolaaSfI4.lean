/- SuffixRows of the program. -/
import Derived.Test.YtkjelakdejbolaaSfI3
import Derived.Test.YtkjelakdejbolaaSfS2
namespace Go.Proofs.Ytkjelakdejbolaa
open Go.RowKit
set_option maxRecDepth 100000

theorem near_perm {n m : Nat} {L M : List Nat} (hn : L.length = n) (h : Near L m M) : M.Perm (List.range (n + 1)) := by
  have := h.1
  rwa [hn] at this

set_option maxHeartbeats 4000000 in
theorem implSuffixRows_in (A : Option Addr) (n c : Nat) (L : List Nat) (w : World) (hL : Lies w B8 A L) (hb8 : ∀ x ∈ L, x < 2 ^ 8) (Hn : Hid (L.length = n)) (hn : n ≤ 300) :
    Calls Try.prog 46 #[.slice A n c] w (NewI w ((sfx L).map Int.ofNat)) := by
  have HL := Lib.hid hL
  have HB8 := Lib.hid hb8
  clear hL hb8
  have t3 : decide (n ≤ 300) = true := by simpa using hn
  obtain ⟨m, hm⟩ : ∃ m, n + 1 = m := ⟨_, rfl⟩
  have hm2 : (n : Int) + 1 = (m : Int) := by omega
  have hmk := fun W => run_make_row' (P := Try.prog) 25 3 (.int .i64 0) 8 Try.underlying25 Try.infoInt rfl .i64 .i64 m (by omega) (by omega) W
  go_enter Try.func46, Try.ntmps46
  go_wp2_with fail
  refine (implTextOk_any A n c w).mono ?_
  rintro e w1 ⟨rfl, rfl⟩
  rw [t3]
  obtain ⟨g, hg⟩ : ∃ g, w1.heap.size = g := ⟨_, rfl⟩
  have Hg := Lib.hid hg
  have hB0 : Below g w1 (w1.alloc (.cells (madeCells #[Value.int .i64 0] m) 3)) := by rw [← hg]; exact (Below.refl _ _).alloc (Nat.le_refl _) _
  have HB0 := Lib.hid hB0
  have HO0 : Hid ((w1.alloc (.cells (madeCells #[Value.int .i64 0] m) 3)).ownsRow g 3 1 (.slice (some ⟨g, 0, none⟩) m m) m ((fillK (fun i => (i : Int)) m 0).map I)) := Lib.hid (by
    have e : (fillK (fun i => (i : Int)) m 0).map I = List.replicate m (I 0) := by rw [fillK_zero]; simp
    rw [e, ← toList_madeCells_one, ← hg]
    exact World.ownsRow_lit w1 _ _ (Nat.le_refl _) (by unfold maxLen; omega) (by simp [size_madeCells]))
  clear hB0
  go_wp2
  clear hmk
  generalize w1.alloc (.cells (madeCells #[Value.int .i64 0] m) 3) = w2 at *
  clear hg
  go_loopw [17] (fun i wr => ∃ k : Nat, k ≤ m ∧ i = .int .i64 k ∧ Hid (wr.ownsRow g 3 1 (.slice (some ⟨g, 0, none⟩) m m) m ((fillK (fun i => (i : Int)) m k).map I)) ∧ Hid (Below g w1 wr)) (fun i _ => m - (intOf i).toNat)
  case atStart => exact ⟨0, Nat.zero_le _, rfl, HO0, HB0⟩
  case round =>
    obtain ⟨k, hk, rfl, HO, HB⟩ := hrel
    clear HO0 HB0
    by_cases hlt : k < m
    · obtain ⟨z, hz⟩ := fillK_getV (fun i => (i : Int)) m k k hlt
      have hd : wr.cell? ⟨g, k, none⟩ = some (I z) := (HO.out.cellAt k (by omega)).trans hz
      have hf := HO.out.frozenAt k
      have HS : Hid ((wr.setCell ⟨g, k, none⟩ (.int .i64 (k : Int))).ownsRow g 3 1 (.slice (some ⟨g, 0, none⟩) m m) m ((fillK (fun i => (i : Int)) m (k + 1)).map I)) := Lib.hid (by
        have h1 := (HO.out.stored k (.int .i64 (k : Int))).1
        have h2 := fillK_setV (fun i => (i : Int)) m k hlt
        rw [h2] at h1
        exact h1)
      have HB2 := Lib.hid (HB.out.setCell (p := ⟨g, k, none⟩) (Nat.le_refl _) (.int .i64 (k : Int)))
      clear hz HO HB
      go_wp2
      go_roundw
      case rel => exact ⟨k + 1, by omega, by go_num, HS, HB2⟩
      case measure => simp [intOf]; omega
    · obtain rfl : m = k := by omega
      have HO2 : Hid (wr.ownsRow g 3 1 (.slice (some ⟨g, 0, none⟩) m m) m (((List.range m).map Int.ofNat).map I)) := Lib.hid (by
        have h := HO.out
        rw [fillK_all] at h
        exact h)
      have hgl : g < wr.heap.size := by
        have := HO2.out.lt g rfl
        omega
      have HBR := Lib.hid (byteRanks_any A n c L wr (HL.out.below (by have := HB.out; rw [← Hg.out] at this; exact this)) HB8.out Hn hn)
      rw [hm] at HBR
      clear HO
      go_wp2_with fail
      refine HBR.out.mono ?_
      rintro e w3 ⟨rfl, ho, hb⟩
      have HO3 := Lib.hid (own_below HO2.out hb (Nat.le_refl _))
      have HB3 := Lib.hid (HB.out.trans (hb.mono (by omega)))
      have HR3 := Lib.hid (own_mono ho (show g + 1 ≤ wr.heap.size by omega))
      clear ho hb HBR HO2 HB
      generalize wr.heap.size = gr0 at *
      go_wp2
      go_loopw [5, 6] (fun v z wr => ∃ (s gr : Nat) (Q : List Int) (M : List Nat), 1 ≤ s ∧ s ≤ 300 ∧ z = .int .i64 s ∧ v = .slice (some ⟨gr, 0, none⟩) m m ∧ Q.length = m ∧ Hid (Ranks L s (fun i => Q.getD i 0)) ∧ Hid (M.Perm (List.range m)) ∧ Hid (wr.ownsRow g 3 1 (.slice (some ⟨g, 0, none⟩) m m) m ((M.map Int.ofNat).map I)) ∧ Hid (wr.ownsRow (g + 1) 3 1 (.slice (some ⟨gr, 0, none⟩) m m) m (Q.map I)) ∧ Hid (Below g w1 wr)) (fun _ z _ => 1000 - (intOf z).toNat)
      case atStart => exact ⟨1, gr0, rk1 L, List.range m, Nat.le_refl _, by omega, rfl, rfl, by rw [rk1_len, Hn.out, hm], Lib.hid (rk1_ranks L), Lib.hid (List.Perm.refl _), HO3, HR3, HB3⟩
      case round =>
        obtain ⟨s, gr, Q, M, hs1, hs2, rfl, rfl, hQl, HRk, HM, HOr, HQr, HBr⟩ := hrel
        clear HO3 HR3 HB3 hgl
        have hgrl := HQr.out.lt gr rfl
        have hgl := HOr.out.lt g rfl
        have HD := Lib.hid (doubled_any (some ⟨gr, 0, none⟩) m n s Q wr (Lies.of_own HQr.out) (by omega) hn)
        rw [hm] at HD
        go_wp2_with fail
        refine HD.out.mono ?_
        rintro e w4 ⟨⟨b0, b1, b2, rfl, hO, l0, l1, l2⟩, hb⟩
        have HO4 := Lib.hid (own_below HOr.out hb (Nat.le_refl _))
        have HB4 := Lib.hid (HBr.out.trans (hb.mono (by omega)))
        have HA4 : Hid (OrdApart w4 g b0 b1 b2 (some ⟨gr, 0, none⟩)) := Lib.hid ⟨l0.2, l1.2, l2.2, by omega, by omega, by omega, fun b o h => by
          cases h
          omega⟩
        have HOA := Lib.hid hO
        have hsz4 := hb.size
        have HS := Lib.hid (sortRows g n s g b0 b1 b2 (some ⟨gr, 0, none⟩) m L M Q w4 Hn hn hs2 hO HA4.out HRk.out (by rw [hm]; exact HO4.out) (by rw [hm]; exact HM.out))
        rw [hm] at HS
        clear hO hb HD HOr HQr HBr
        go_wp2_with fail
        refine HS.out.mono ?_
        rintro e w5 ⟨rfl, M', hN, ho, hg5⟩
        have HN := Lib.hid hN
        have HO5 := Lib.hid ho
        have HB5 := Lib.hid (HB4.out.trans (grown_below HO4.out hg5 (Nat.le_refl _) (by omega)))
        have HM5 : Hid (M'.Perm (List.range m)) := Lib.hid (by rw [← hm]; exact near_perm Hn.out hN)
        have hsz5 := hg5.size
        have HR := Lib.hid (newRanks_any g n s b0 b1 b2 (some ⟨gr, 0, none⟩) m L M' Q w5 Hn hn hs2 (HA4.out.keep HOA.out hg5) (by omega) (by omega) (by omega) HRk.out (Lies.of_own ho) (by rw [hm]; exact HM5.out))
        rw [hm] at HR
        clear hN ho hg5 HS HO4 HB4 HA4 HOA HM
        go_wp2_with fail
        refine HR.out.mono ?_
        rintro e w6 ⟨⟨Q', rfl, ho, hl6, hinc⟩, hb⟩
        have HO6 := Lib.hid (own_below HO5.out hb (Nat.le_refl _))
        have HB6 := Lib.hid (HB5.out.trans (hb.mono (by omega)))
        have HQ6 := Lib.hid (own_mono ho (show g + 1 ≤ w5.heap.size by omega))
        have HI6 := Lib.hid hinc
        clear ho hb hinc HR HO5 HB5
        obtain ⟨gr1, hgr1⟩ : ∃ gr1, w5.heap.size = gr1 := ⟨_, rfl⟩
        rw [hgr1] at HQ6
        clear hsz4 hsz5 l0 l1 l2
        have hM5l : M'.length = m := by rw [HM5.out.length_eq, List.length_range]
        obtain ⟨x, hx⟩ : ∃ x, M'[n]? = some x := ⟨_, List.getElem?_eq_getElem (by omega)⟩
        have hxn : x ≤ n := by
          have := List.mem_range.1 (HM5.out.mem_iff.1 (List.mem_of_getElem? hx))
          omega
        have hcx : w6.cell? ⟨g, n, none⟩ = some (I (x : Int)) := (HO6.out.cellAt n (by omega)).trans (by rw [List.getElem?_map, List.getElem?_map, hx]; rfl)
        obtain ⟨v, hv⟩ : ∃ v, incs (cS L (s + s)) M' n = v := ⟨_, rfl⟩
        have hcv : w6.cell? ⟨gr1, x, none⟩ = some (I (v : Int)) := (HQ6.out.cellAt x (by omega)).trans (by
          have h1 := HI6.out n (Nat.le_refl _)
          rw [getM hx, hv] at h1
          rw [List.getElem?_map, List.getElem?_eq_getElem (show x < Q'.length by omega)]
          rw [List.getD_eq_getElem?_getD, List.getElem?_eq_getElem (show x < Q'.length by omega)] at h1
          simp only [Option.getD_some] at h1
          rw [h1]
          rfl)
        have HV := Lib.hid hv
        have hnm : n < m := by omega
        have hnm2 : (n : Int) < (m : Int) := by omega
        have hxm : x < m := by omega
        have hxm2 : (x : Int) < (m : Int) := by omega
        clear hx hv
        by_cases hvn : v = n
        · have HE : Hid (M' = sfx L) := Lib.hid (HN.out.done (C := cS L (s + s)) (fun i j _ _ => rfl) (by rw [Hn.out, HV.out, hvn]))
          have he : ((v : Int) == (n : Int)) = true := by rw [hvn]; simp
          have he2 : (v : Int) = (n : Int) := by omega
          have HF : Hid (NewI w1 ((sfx L).map Int.ofNat) (.returned (.slice (some ⟨g, 0, none⟩) m m)) w6) := Lib.hid (by
            rw [← HE.out]
            refine ⟨some ⟨g, 0, none⟩, m, by rw [List.length_map, hM5l], ?_, by rw [Hg.out]; exact HB6.out⟩
            rw [List.length_map, hM5l, Hg.out]
            exact HO6.out)
          clear HV HE hvn
          go_wp2
          go_ret
          exact HF.out
        · have hsn : s + s ≤ n := Classical.byContradiction fun hc => hvn (by
            have := HN.out.last (C := cS L (s + s)) (fun i j _ _ => rfl) (by rw [Hn.out]; omega)
            rw [Hn.out, HV.out] at this
            exact this)
          have he : ((v : Int) == (n : Int)) = false := by rw [beq_eq_false_iff_ne]; omega
          have he2 : ¬ ((v : Int) = (n : Int)) := by omega
          have HRn : Hid (Ranks L (s + s) (fun i => Q'.getD i 0)) := Lib.hid (HN.out.ranks (C := cS L (s + s)) (fun i j _ _ => rfl) (by rw [Hn.out]; exact HI6.out))
          obtain ⟨s2, hs3⟩ : ∃ s2, s + s = s2 := ⟨_, rfl⟩
          rw [hs3] at HRn hsn
          have hs4 : (s : Int) * 2 = (s2 : Int) := by omega
          have hs5 : IntKind.i64.wrap ((s : Int) * 2) = (s2 : Int) := by rw [IntWalk.i64_in _ (by omega)]; omega
          clear HV HI6 HN HRk
          go_wp2
          go_roundw
          case rel => exact ⟨s2, gr1, Q', M', by omega, by omega, rfl, by first | rfl | rw [hgr1], by omega, HRn, HM5, HO6, HQ6, HB6⟩
          case measure => simp [intOf]; omega

theorem implSuffixRows_any (A : Option Addr) (c : Nat) (L : List Nat) (w : World) (hL : Lies w B8 A L) (hb8 : ∀ x ∈ L, x < 2 ^ 8) :
    Calls Try.prog 46 #[.slice A L.length c] w (NewI w (sfxV L)) := by
  unfold sfxV
  by_cases h3 : L.length ≤ 300
  · rw [if_pos h3]
    exact implSuffixRows_in A L.length c L w hL hb8 (Lib.hid rfl) h3
  · rw [if_neg h3]
    have t3 : decide (L.length ≤ 300) = false := by simpa using h3
    generalize L.length = n at *
    clear hL
    go_enter Try.func46, Try.ntmps46
    go_wp2_with fail
    refine (implTextOk_any A n c w).mono ?_
    rintro e w1 ⟨rfl, rfl⟩
    rw [t3]
    go_wp2
    go_ret
    exact ⟨none, 0, rfl, World.ownsRow_nil _ _ _ _, Below.refl _ _⟩

end Go.Proofs.Ytkjelakdejbolaa
