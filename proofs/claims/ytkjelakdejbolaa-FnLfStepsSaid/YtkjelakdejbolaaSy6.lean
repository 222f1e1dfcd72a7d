/- BwtOf of the program. -/
import Derived.Test.YtkjelakdejbolaaSfI4
import Derived.Test.YtkjelakdejbolaaSy5
namespace Go.Proofs.Ytkjelakdejbolaa
open Go.RowKit
set_option maxRecDepth 100000

theorem range_getD (L : List Int) : (List.range L.length).map (fun k => L.getD k 0) = L := by
  refine List.ext_getElem? fun j => ?_
  rw [List.getElem?_map]
  by_cases h : j < L.length
  · rw [List.getElem?_range h, Option.map_some, getD_int (List.getElem?_eq_getElem h), List.getElem?_eq_getElem h]
  · rw [List.getElem?_eq_none (by simpa using h), List.getElem?_eq_none (by omega)]
    rfl

set_option maxHeartbeats 800000 in
theorem symBefore_any (A : Option Addr) (n c i : Nat) (L : List Nat) (w : World) (hL : Lies w B8 A L) (h8 : ∀ x ∈ L, x < 2 ^ 8) (Hn : Hid (L.length = n)) (hn : n ≤ 300) (hi : i ≤ n) :
    Calls Try.prog 47 #[.slice A n c, .int .i64 i] w fun e w' => e = .returned (.int .i64 (symB L i)) ∧ w' = w := by
  by_cases h0 : i = 0
  · subst h0
    rw [symB_zero]
    clear hL h8
    go_enter Try.func47, Try.ntmps47
    go_wp2
    go_ret
    exact ⟨rfl, rfl⟩
  · obtain ⟨p, hp⟩ : ∃ p, i = p + 1 := ⟨i - 1, by omega⟩
    obtain ⟨b, o, x, hA, hbl, hx, hc⟩ := hL.at_ (i := p) (by rw [Hn.out]; omega)
    subst hA
    have hx8 : x < 2 ^ 8 := h8 x (List.mem_of_getElem? hx)
    have HS : Hid (symB L i = ((x : Int) + 1)) := Lib.hid (by rw [hp, symB_pos hx])
    have hi0 : ((i : Int) == 0) = false := by rw [beq_eq_false_iff_ne]; omega
    have hii : IntKind.i64.wrap ((i : Int) - 1) = (p : Int) := by rw [IntWalk.i64_in _ (by omega)]; omega
    have hii2 : (i : Int) - 1 = (p : Int) := by omega
    have hpn : p < n := by omega
    have hpn2 : (p : Int) < (n : Int) := by omega
    have hw1 : IntKind.i64.wrap ((x : Int) + 1) = (x : Int) + 1 := IntWalk.i64_in _ (by omega)
    have hw2 : IntKind.i64.wrap (x : Int) = (x : Int) := IntWalk.i64_in _ (by omega)
    rw [HS.out]
    clear hL h8 hx hp
    go_enter Try.func47, Try.ntmps47
    go_wp2
    go_ret
    exact ⟨rfl, rfl⟩

set_option maxHeartbeats 4000000 in
theorem implBwt_in (A : Option Addr) (n c : Nat) (L : List Nat) (w : World) (hL : Lies w B8 A L) (h8 : ∀ x ∈ L, x < 2 ^ 8) (Hn : Hid (L.length = n)) (hn : n ≤ 300) :
    Calls Try.prog 15 #[.slice A n c] w (NewI w (bwtL L)) := by
  have HL := Lib.hid hL
  have H8 := Lib.hid h8
  clear hL h8
  have t3 : decide (n ≤ 300) = true := by simpa using hn
  obtain ⟨m, hm⟩ : ∃ m, n + 1 = m := ⟨_, rfl⟩
  have hmk := fun W => run_make_row' (P := Try.prog) 25 3 (.int .i64 0) 8 Try.underlying25 Try.infoInt rfl .i64 .i64 m (by omega) (by omega) W
  have HS := Lib.hid (implSuffixRows_in A n c L w HL.out H8.out Hn hn)
  go_enter Try.func15, Try.ntmps15
  go_wp2_with fail
  refine (implTextOk_any A n c w).mono ?_
  rintro e w1 ⟨rfl, rfl⟩
  rw [t3]
  go_wp2_with fail
  refine HS.out.mono ?_
  rintro e w2 ⟨Ar, cr, rfl, ho, hb⟩
  have hSl : ((sfx L).map Int.ofNat).length = m := by rw [List.length_map, sfx_len, Hn.out, hm]
  rw [hSl] at ho ⊢
  have HLr := Lib.hid (Lies.of_own ho)
  have HB2 := Lib.hid hb
  clear ho hb hSl HS
  obtain ⟨R, hR⟩ : ∃ R : Nat → Int, R = fun k => (bwtL L).getD k 0 := ⟨_, rfl⟩
  have HR := Lib.hid hR
  clear hR
  obtain ⟨g, hg⟩ : ∃ g, w2.heap.size = g := ⟨_, rfl⟩
  have hB3 : Below g w2 (w2.alloc (.cells (madeCells #[Value.int .i64 0] m) 3)) := by rw [← hg]; exact (Below.refl _ _).alloc (Nat.le_refl _) _
  have HB3 := Lib.hid hB3
  have HO3 : Hid ((w2.alloc (.cells (madeCells #[Value.int .i64 0] m) 3)).ownsRow g 3 1 (.slice (some ⟨g, 0, none⟩) m m) m ((fillK R m 0).map I)) := Lib.hid (by
    have e : (fillK R m 0).map I = List.replicate m (I 0) := by rw [fillK_zero]; simp
    rw [e, ← toList_madeCells_one, ← hg]
    exact World.ownsRow_lit w2 _ _ (Nat.le_refl _) (by unfold maxLen; omega) (by simp [size_madeCells]))
  have Hg := Lib.hid hg
  clear hB3
  go_wp2
  clear hmk
  generalize w2.alloc (.cells (madeCells #[Value.int .i64 0] m) 3) = w3 at *
  clear hg
  go_loopw [17] (fun i wr => ∃ k : Nat, k ≤ m ∧ i = .int .i64 k ∧ Hid (wr.ownsRow g 3 1 (.slice (some ⟨g, 0, none⟩) m m) m ((fillK R m k).map I)) ∧ Hid (Below g w2 wr)) (fun i _ => m - (intOf i).toNat)
  case atStart => exact ⟨0, Nat.zero_le _, rfl, HO3, HB3⟩
  case round =>
    obtain ⟨k, hk, rfl, HO, HB⟩ := hrel
    clear HO3 HB3
    by_cases hlt : k < m
    · obtain ⟨y, hy, hyn⟩ := sfx_at (t := L) (k := k) (by rw [Hn.out]; omega)
      rw [Hn.out] at hyn
      have HBw : Hid (Below w2.heap.size w2 wr) := Lib.hid (by rw [Hg.out]; exact HB.out)
      have HBw1 : Hid (Below w1.heap.size w1 wr) := Lib.hid (below_then HB2.out HBw.out)
      obtain ⟨b, o, hAr, hbl, hcx⟩ := (HLr.out.below HBw.out) k (y : Int) (ofNat_at hy)
      subst hAr
      have HC := Lib.hid (symBefore_any A n c y L wr (HL.out.below HBw1.out) H8.out Hn hn hyn)
      obtain ⟨z, hz⟩ := fillK_getV R m k k hlt
      have hd : wr.cell? ⟨g, k, none⟩ = some (I z) := (HO.out.cellAt k (by omega)).trans hz
      have hf := HO.out.frozenAt k
      have HV : Hid (R k = symB L y) := Lib.hid (by rw [HR.out]; exact getD_int (bwtL_at hy))
      have HSt : Hid ((wr.setCell ⟨g, k, none⟩ (.int .i64 (symB L y))).ownsRow g 3 1 (.slice (some ⟨g, 0, none⟩) m m) m ((fillK R m (k + 1)).map I)) := Lib.hid (by
        have h1 := (HO.out.stored k (.int .i64 (symB L y))).1
        have h2 := fillK_setV R m k hlt
        rw [HV.out] at h2
        rw [h2] at h1
        exact h1)
      have HBs := Lib.hid (HB.out.setCell (p := ⟨g, k, none⟩) (Nat.le_refl _) (.int .i64 (symB L y)))
      have hkm2 : (k : Int) < (m : Int) := by omega
      generalize symB L y = v at *
      clear hy hz HO HB HV
      go_wp2_with fail
      refine HC.out.mono ?_
      rintro e w5 ⟨rfl, rfl⟩
      go_wp2
      go_roundw
      case rel => exact ⟨k + 1, by omega, by go_num, HSt, HBs⟩
      case measure => simp [intOf]; omega
    · obtain rfl : m = k := by omega
      have HF : Hid (NewI w1 (bwtL L) (.returned (.slice (some ⟨g, 0, none⟩) m m)) wr) := Lib.hid (by
        have h := HO.out
        have hl : (bwtL L).length = m := by rw [bwtL_len, Hn.out, hm]
        rw [fillK_all, HR.out, ← hl, range_getD, hl] at h
        exact newI_own (own_mono h (by have := HB2.out.size; rw [← Hg.out]; exact this)) hl (below_then HB2.out (by rw [Hg.out]; exact HB.out)))
      clear HO HB
      go_wp2
      go_ret
      exact HF.out

theorem implBwt_any (A : Option Addr) (c : Nat) (L : List Nat) (w : World) (hL : Lies w B8 A L) (h8 : ∀ x ∈ L, x < 2 ^ 8) :
    Calls Try.prog 15 #[.slice A L.length c] w (NewI w (bwtV L)) := by
  unfold bwtV
  by_cases h3 : L.length ≤ 300
  · rw [if_pos h3]
    exact implBwt_in A L.length c L w hL h8 (Lib.hid rfl) h3
  · rw [if_neg h3]
    have t3 : decide (L.length ≤ 300) = false := by simpa using h3
    generalize L.length = n at *
    clear hL h8
    go_enter Try.func15, Try.ntmps15
    go_wp2_with fail
    refine (implTextOk_any A n c w).mono ?_
    rintro e w1 ⟨rfl, rfl⟩
    rw [t3]
    go_wp2
    go_ret
    exact ⟨none, 0, rfl, World.ownsRow_nil _ _ _ _, Below.refl _ _⟩

end Go.Proofs.Ytkjelakdejbolaa
