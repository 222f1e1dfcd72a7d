/- LcpRows of the program. -/
import Derived.Test.YtlgnndfhpnbhmaaSfL1
import Derived.Test.YtlgnndfhpnbhmaaQTail
import Derived.BigQuiet
namespace Go.Proofs.Ytlgnndfhpnbhmaa
open Go.RowKit
set_option maxRecDepth 100000

/-- What row k has in common with the one before. -/
def lcpAt (L : List Nat) (k : Nat) : Int := if k = 0 then 0 else (cpl (L.drop ((sfx L).getD (k - 1) 0)) (L.drop ((sfx L).getD k 0)) : Nat)
/-- What LcpRows is to return. -/
def lcpV (L : List Nat) : List Int := if L.length ≤ 300 then (List.range (L.length + 1)).map (lcpAt L) else []
theorem lcpV_len (L : List Nat) : (lcpV L).length ≤ 301 := by
  unfold lcpV
  split
  · simp; omega
  · simp
theorem fill_one {R : Nat → Int} {m : Nat} (h : R 0 = 0) (hm : 0 < m) : fillK R m 1 = List.replicate m 0 := by
  rw [← fillK_zero R m, ← fillK_succ R m 0 hm, h]
  refine List.ext_getElem? fun j => ?_
  rw [List.getElem?_set]
  by_cases e : 0 = j
  · subst e
    rw [if_pos rfl, if_pos (by rw [fillK_len]; exact hm), fillK_get R m 0 0 hm, if_neg (by omega)]
  · rw [if_neg e]

set_option maxHeartbeats 4000000 in
theorem implLcpRows_in (A : Option Addr) (n c : Nat) (L : List Nat) (w : World) (hL : Lies w B8 A L) (hA : Tidy A c) (hb8 : ∀ x ∈ L, x < 2 ^ 8) (Hn : Hid (L.length = n)) (hn : n ≤ 300) (hc : n ≤ c) :
    Calls Try.prog 22 #[.slice A n c] w (NewI w ((List.range (n + 1)).map (lcpAt L))) := by
  have HL := Lib.hid hL
  have HB8 := Lib.hid hb8
  clear hL hb8
  have t3 : decide (n ≤ 300) = true := by simpa using hn
  obtain ⟨m, hm⟩ : ∃ m, n + 1 = m := ⟨_, rfl⟩
  have hmk := fun W => run_make_row' (P := Try.prog) 25 3 (.int .i64 0) 8 Try.underlying25 Try.infoInt rfl .i64 .i64 m (by omega) (by omega) W
  have HS := Lib.hid (implSuffixRows_in A n c L w HL.out HB8.out Hn hn)
  go_enter Try.func22, Try.ntmps22
  go_wp2_with fail
  refine (implTextOk_any A n c w).mono ?_
  rintro e w1 ⟨rfl, rfl⟩
  rw [t3]
  go_wp2_with fail
  refine HS.out.mono ?_
  rintro e w2 ⟨Ar, cr, rfl, ho, hb⟩
  have hSl : ((sfx L).map Int.ofNat).length = m := by rw [List.length_map, sfx_len, Hn.out, hm]
  rw [hSl] at ho ⊢
  have HLr := Lib.hid (Lies.of_own ho)
  have HB2 := Lib.hid hb
  clear ho hb hSl HS
  obtain ⟨g, hg⟩ : ∃ g, w2.heap.size = g := ⟨_, rfl⟩
  have hB3 : Below g w2 (w2.alloc (.cells (madeCells #[Value.int .i64 0] m) 3)) := by rw [← hg]; exact (Below.refl _ _).alloc (Nat.le_refl _) _
  have HB3 := Lib.hid hB3
  have HO3 : Hid ((w2.alloc (.cells (madeCells #[Value.int .i64 0] m) 3)).ownsRow g 3 1 (.slice (some ⟨g, 0, none⟩) m m) m ((fillK (lcpAt L) m 1).map I)) := Lib.hid (by
    have e : (fillK (lcpAt L) m 1).map I = List.replicate m (I 0) := by rw [fill_one (R := lcpAt L) rfl (by omega)]; simp
    rw [e, ← toList_madeCells_one, ← hg]
    exact World.ownsRow_lit w2 _ _ (Nat.le_refl _) (by unfold maxLen; omega) (by simp [size_madeCells]))
  have Hg := Lib.hid hg
  clear hB3
  go_wp2
  clear hmk
  generalize w2.alloc (.cells (madeCells #[Value.int .i64 0] m) 3) = w3 at *
  clear hg
  go_loopw [5] (fun i wr => ∃ k : Nat, 1 ≤ k ∧ k ≤ m ∧ i = .int .i64 k ∧ Hid (wr.ownsRow g 3 1 (.slice (some ⟨g, 0, none⟩) m m) m ((fillK (lcpAt L) m k).map I)) ∧ Hid (Below g w2 wr)) (fun i _ => m - (intOf i).toNat)
  case atStart => exact ⟨1, Nat.le_refl _, by omega, rfl, HO3, HB3⟩
  case round =>
    obtain ⟨k, hk1, hk, rfl, HO, HB⟩ := hrel
    clear HO3 HB3
    by_cases hlt : k < m
    · obtain ⟨p, hp⟩ : ∃ p, k = p + 1 := ⟨k - 1, by omega⟩
      obtain ⟨x, hx, hxn⟩ := sfx_at (t := L) (k := p) (by rw [Hn.out]; omega)
      obtain ⟨y, hy, hyn⟩ := sfx_at (t := L) (k := k) (by rw [Hn.out]; omega)
      rw [Hn.out] at hxn hyn
      have HBw : Hid (Below w2.heap.size w2 wr) := Lib.hid (by rw [Hg.out]; exact HB.out)
      have HBw1 : Hid (Below w1.heap.size w1 wr) := Lib.hid (below_then HB2.out HBw.out)
      obtain ⟨b, o, hAr, hbl, hcx0⟩ := (HLr.out.below HBw.out) p (x : Int) (ofNat_at hx)
      obtain ⟨b', o', hAr', _, hcy0⟩ := (HLr.out.below HBw.out) k (y : Int) (ofNat_at hy)
      subst hAr
      cases hAr'
      obtain ⟨A1, hs1, hL1, hA1⟩ := slice_drop Try.elemBytes Try.sizeByte A n c L x wr Hn (HL.out.below HBw1.out) hA hxn hc
      obtain ⟨A2, hs2, hL2, hA2⟩ := slice_drop Try.elemBytes Try.sizeByte A n c L y wr Hn (HL.out.below HBw1.out) hA hyn hc
      have HC := Lib.hid fun (q : Nat) => implCommon A1 A2 (c - x) (c - y) (L.drop x) (L.drop y) (wr.drewN q) hL1 hL2 (by rw [List.length_drop, Hn.out]; omega)
      obtain ⟨v, hv⟩ : ∃ v, cpl (L.drop x) (L.drop y) = v := ⟨_, rfl⟩
      have HV : Hid (lcpAt L k = (v : Int)) := Lib.hid (by
        unfold lcpAt
        rw [if_neg (by omega), show k - 1 = p by omega, getM hx, getM hy, hv])
      rw [hv] at HC
      obtain ⟨z, hz⟩ := fillK_getV (lcpAt L) m k k hlt
      have hd : wr.cell? ⟨g, k, none⟩ = some (I z) := (HO.out.cellAt k (by omega)).trans hz
      have hf := HO.out.frozenAt k
      have hki : IntKind.i64.wrap ((k : Int) - 1) = (p : Int) := by rw [IntWalk.i64_in _ (by omega)]; omega
      have hki2 : (k : Int) - 1 = (p : Int) := by omega
      have hpm : p < m := by omega
      have hpm2 : (p : Int) < (m : Int) := by omega
      have hkm2 : (k : Int) < (m : Int) := by omega
      have Hp := Lib.hid hp
      clear hL1 hL2 hA1 hA2 hx hy hv hz hp
      generalize L.drop x = D1 at *
      generalize L.drop y = D2 at *
      go_wp2
      refine wp_region_quiet_tail 17 (by kernel_rfl) (by kernel_rfl) ?_
      simp only [List.take_succ_cons, List.take_zero, List.drop_succ_cons, List.drop_zero]
      repeat (go_big_quiet_step ((go_at_call 49; exact Calls.quiet_of (HC.out _))))
      refine wpQuiet_nil ?_
      rintro w5 ⟨nq, rfl⟩
      have HO5 : Hid ((wr.drewN nq).ownsRow g 3 1 (.slice (some ⟨g, 0, none⟩) m m) m ((fillK (lcpAt L) m k).map I)) := Lib.hid HO.out
      have HB5 : Hid (Below g w2 (wr.drewN nq)) := Lib.hid (below_dN HB.out nq)
      have hd5 : (wr.drewN nq).cell? ⟨g, k, none⟩ = some (I z) := hd
      have hf5 : (wr.drewN nq).frozen? ⟨g, k, none⟩ = false := hf
      clear HO HB hd hf hcx0 hcy0 HBw HBw1
      generalize wr.drewN nq = w5 at *
      have HS5 : Hid ((w5.setCell ⟨g, k, none⟩ (.int .i64 (v : Int))).ownsRow g 3 1 (.slice (some ⟨g, 0, none⟩) m m) m ((fillK (lcpAt L) m (k + 1)).map I)) := Lib.hid (by
        have h1 := (HO5.out.stored k (.int .i64 (v : Int))).1
        have h2 := fillK_setV (lcpAt L) m k hlt
        rw [HV.out] at h2
        rw [h2] at h1
        exact h1)
      have HB6 := Lib.hid (HB5.out.setCell (p := ⟨g, k, none⟩) (Nat.le_refl _) (.int .i64 (v : Int)))
      clear HO5 HB5 HV
      go_wp2
      go_roundw
      case rel => exact ⟨k + 1, by omega, by omega, by go_num, HS5, HB6⟩
      case measure => simp [intOf]; omega
    · obtain rfl : m = k := by omega
      have HF : Hid (NewI w1 ((List.range (n + 1)).map (lcpAt L)) (.returned (.slice (some ⟨g, 0, none⟩) m m)) wr) := Lib.hid (by
        have h := HO.out
        rw [fillK_all] at h
        rw [hm]
        have hl : ((List.range m).map (lcpAt L)).length = m := by simp
        refine ⟨some ⟨g, 0, none⟩, m, by rw [hl], ?_, below_then HB2.out (by rw [Hg.out]; exact HB.out)⟩
        rw [hl]
        refine own_mono h ?_
        have := HB2.out.size
        rw [← Hg.out]
        exact this)
      clear HO HB
      go_wp2
      go_ret
      exact HF.out

theorem implLcpRows_any (A : Option Addr) (c : Nat) (L : List Nat) (w : World) (hL : Lies w B8 A L) (hA : Tidy A c) (hb8 : ∀ x ∈ L, x < 2 ^ 8) (hc : L.length ≤ c) :
    Calls Try.prog 22 #[.slice A L.length c] w (NewI w (lcpV L)) := by
  unfold lcpV
  by_cases h3 : L.length ≤ 300
  · rw [if_pos h3]
    exact implLcpRows_in A L.length c L w hL hA hb8 (Lib.hid rfl) h3 hc
  · rw [if_neg h3]
    have t3 : decide (L.length ≤ 300) = false := by simpa using h3
    generalize L.length = n at *
    clear hL
    go_enter Try.func22, Try.ntmps22
    go_wp2_with fail
    refine (implTextOk_any A n c w).mono ?_
    rintro e w1 ⟨rfl, rfl⟩
    rw [t3]
    go_wp2
    go_ret
    exact ⟨none, 0, rfl, World.ownsRow_nil _ _ _ _, Below.refl _ _⟩

end Go.Proofs.Ytlgnndfhpnbhmaa
