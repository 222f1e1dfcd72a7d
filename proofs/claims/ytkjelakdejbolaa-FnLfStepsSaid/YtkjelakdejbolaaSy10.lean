/- StepsBack, of the program and of the specification. -/
import Derived.Test.YtkjelakdejbolaaSy9
import Derived.Test.YtkjelakdejbolaaSy3
namespace Go.Proofs.Ytkjelakdejbolaa
open Go.RowKit
set_option maxRecDepth 100000

theorem stOk_iff (L : List Int) (k m : Int) : stOk L k m = true ↔ symOk L = true ∧ (0 ≤ k ∧ k < (L.length : Int)) ∧ 0 ≤ m ∧ m ≤ 301 := by
  unfold stOk
  simp [and_assoc]

set_option maxHeartbeats 1600000 in
theorem implSteps_yes (A : Option Addr) (n c : Nat) (L : List Int) (k m : Nat) (w : World) (hL : Lies w I A L) (Hn : Hid (L.length = n)) (hn : n ≤ 301) (HOk : Hid (symOk L = true)) (hk : k < n) (hm : m ≤ 301) :
    Calls Try.prog 24 #[.slice A n c, .int .i64 k, .int .i64 m] w fun e w' => e = .returned (.int .i64 (lfIt L k m : Nat)) ∧ Below w.heap.size w w' := by
  have HC := Lib.hid (implSymsOk_any A c L w hL)
  rw [Hn.out, HOk.out] at HC
  have HF := Lib.hid (implLf_in A n c L w hL Hn hn HOk)
  clear hL
  have d1 : decide ((k : Int) < 0) = false := by simp
  have d2 : decide ((n : Int) ≤ (k : Int)) = false := by simp; omega
  have d3 : decide ((m : Int) < 0) = false := by simp
  have d4 : decide ((301 : Int) < (m : Int)) = false := by simp; omega
  go_enter Try.func24, Try.ntmps24
  go_wp2_with fail
  refine HC.out.mono ?_
  rintro e w1 ⟨rfl, rfl⟩
  go_wp2_with fail
  refine HF.out.mono ?_
  rintro e w2 ⟨Ar, cr, rfl, ho, hb⟩
  rw [show ((List.range n).map fun k : Nat => (lfAt L k : Int)).length = n by rw [List.length_map, List.length_range]]
  have HLr : Hid (Lies w2 I Ar ((List.range n).map fun k : Nat => (lfAt L k : Int))) := Lib.hid (Lies.of_own ho)
  have HB := Lib.hid hb
  have Hk := Lib.hid (lfIt_lt (L := L) (k := k) (by rw [Hn.out]; exact hk))
  clear ho hb d1 d2 d3 d4 HF HC
  go_wp2
  go_loop [1, 32] (fun a i => ∃ j : Nat, j ≤ m ∧ i = .int .i64 j ∧ a = .int .i64 (lfIt L k j : Nat)) (fun _ i => m - (intOf i).toNat)
  case atStart => exact ⟨0, Nat.zero_le _, rfl, rfl⟩
  case round =>
    obtain ⟨j, hj, rfl, rfl⟩ := hrel
    have hkj := Hk.out j
    rw [Hn.out] at hkj
    by_cases hjm : j < m
    · obtain ⟨x, hx⟩ : ∃ x, lfIt L k j = x := ⟨_, rfl⟩
      have HS : Hid (lfIt L k (j + 1) = lfAt L x) := Lib.hid (by rw [lfIt, hx])
      rw [hx] at hkj ⊢
      obtain ⟨b, o, hA, hbl, hc⟩ := HLr.out x (lfAt L x : Int) (by rw [List.getElem?_map, List.getElem?_range hkj]; rfl)
      subst hA
      have hxn : (x : Int) < (n : Int) := by omega
      clear hx
      go_wp2
      go_round
      case rel => exact ⟨j + 1, by omega, by go_num, by rw [HS.out]⟩
      case measure => simp [intOf]; omega
    · obtain rfl : j = m := by omega
      go_wp2
      go_ret
      exact ⟨rfl, HB.out⟩

set_option maxHeartbeats 1600000 in
theorem implSteps_no (A : Option Addr) (n c : Nat) (L : List Int) (k m : Int) (w : World) (hL : Lies w I A L) (Hn : Hid (L.length = n)) (h : ¬ (symOk L = true ∧ (0 ≤ k ∧ k < n) ∧ 0 ≤ m ∧ m ≤ 301)) :
    Calls Try.prog 24 #[.slice A n c, .int .i64 k, .int .i64 m] w fun e w' => e = .returned (.int .i64 (-1)) ∧ Below w.heap.size w w' := by
  have HC := Lib.hid (implSymsOk_any A c L w hL)
  rw [Hn.out] at HC
  clear hL
  go_enter Try.func24, Try.ntmps24
  go_wp2_with fail
  refine HC.out.mono ?_
  rintro e w1 ⟨rfl, rfl⟩
  by_cases hs : symOk L = true
  · rw [hs]
    by_cases h1 : k < 0
    · have d1 : decide (k < 0) = true := by simpa using h1
      clear h hs
      go_wp2
      go_ret
      exact ⟨rfl, Below.refl _ _⟩
    · have d1 : decide (k < 0) = false := by simp; omega
      by_cases h2 : (n : Int) ≤ k
      · have d2 : decide ((n : Int) ≤ k) = true := by simpa using h2
        clear h hs
        go_wp2
        go_ret
        exact ⟨rfl, Below.refl _ _⟩
      · have d2 : decide ((n : Int) ≤ k) = false := by simp; omega
        by_cases h3 : m < 0
        · have d3 : decide (m < 0) = true := by simpa using h3
          clear h hs
          go_wp2
          go_ret
          exact ⟨rfl, Below.refl _ _⟩
        · have d3 : decide (m < 0) = false := by simp; omega
          have h4 : 301 < m := by
            refine Classical.byContradiction fun hc => h ⟨hs, ⟨by omega, by omega⟩, by omega, by omega⟩
          have d4 : decide (301 < m) = true := by simpa using h4
          clear h hs
          go_wp2
          go_ret
          exact ⟨rfl, Below.refl _ _⟩
  · rw [show symOk L = false by simpa using hs]
    clear h hs
    go_wp2
    go_ret
    exact ⟨rfl, Below.refl _ _⟩

theorem implSteps_any (A : Option Addr) (c : Nat) (L : List Int) (k m : Int) (w : World) (hL : Lies w I A L) :
    Calls Try.prog 24 #[.slice A L.length c, .int .i64 k, .int .i64 m] w fun e w' => e = .returned (.int .i64 (stV L k m)) ∧ Below w.heap.size w w' := by
  unfold stV
  by_cases h : symOk L = true ∧ (0 ≤ k ∧ k < (L.length : Int)) ∧ 0 ≤ m ∧ m ≤ 301
  · obtain ⟨h1, ⟨h2, h3⟩, h4, h5⟩ := h
    obtain ⟨a, rfl⟩ := Int.eq_ofNat_of_zero_le h2
    obtain ⟨b, rfl⟩ := Int.eq_ofNat_of_zero_le h4
    rw [if_pos ((stOk_iff _ _ _).2 ⟨h1, ⟨h2, h3⟩, h4, h5⟩), Int.toNat_natCast, Int.toNat_natCast]
    exact implSteps_yes A L.length c L a b w hL (Lib.hid rfl) (symOk_len h1) (Lib.hid h1) (by omega) (by omega)
  · rw [if_neg (fun hc => h ((stOk_iff _ _ _).1 hc))]
    exact implSteps_no A L.length c L k m w hL (Lib.hid rfl) h

set_option maxHeartbeats 1600000 in
theorem specSteps_yes (A : Option Addr) (n c : Nat) (L : List Int) (k m : Nat) (w : World) (hL : Lies w I A L) (Hn : Hid (L.length = n)) (hn : n ≤ 301) (HOk : Hid (symOk L = true)) (hk : k < n) (hm : m ≤ 301) :
    Calls Try.prog 42 #[.slice A n c, .int .i64 k, .int .i64 m] w fun e w' => e = .returned (.int .i64 (lfIt L k m : Nat)) ∧ Below w.heap.size w w' := by
  have HC := Lib.hid (specSymsOk_any A c L w hL)
  rw [Hn.out, HOk.out] at HC
  have HF := Lib.hid (specLf_in A n c L w hL Hn hn HOk)
  clear hL
  have d1 : decide ((k : Int) < 0) = false := by simp
  have d2 : decide ((n : Int) ≤ (k : Int)) = false := by simp; omega
  have d3 : decide ((m : Int) < 0) = false := by simp
  have d4 : decide ((301 : Int) < (m : Int)) = false := by simp; omega
  go_enter Try.func42, Try.ntmps42
  go_wp2_with fail
  refine HC.out.mono ?_
  rintro e w1 ⟨rfl, rfl⟩
  go_wp2_with fail
  refine HF.out.mono ?_
  rintro e w2 ⟨Ar, cr, rfl, ho, hb⟩
  rw [show ((List.range n).map fun k : Nat => (lfAt L k : Int)).length = n by rw [List.length_map, List.length_range]]
  have HLr : Hid (Lies w2 I Ar ((List.range n).map fun k : Nat => (lfAt L k : Int))) := Lib.hid (Lies.of_own ho)
  have HB := Lib.hid hb
  have Hk := Lib.hid (lfIt_lt (L := L) (k := k) (by rw [Hn.out]; exact hk))
  clear ho hb d1 d2 d3 d4 HF HC
  go_wp2
  go_loop [1, 2] (fun a i => ∃ j q : Nat, j + q = m ∧ i = .int .i64 q ∧ a = .int .i64 (lfIt L k j : Nat)) (fun _ i => (intOf i).toNat)
  case atStart => exact ⟨0, m, by omega, rfl, rfl⟩
  case round =>
    obtain ⟨j, q, hj, rfl, rfl⟩ := hrel
    have hkj := Hk.out j
    rw [Hn.out] at hkj
    have HJ := Lib.hid hj
    by_cases hq : 0 < q
    · have hq1 : decide ((0 : Int) < (q : Int)) = true := by simpa using hq
      obtain ⟨p, hp⟩ : ∃ p, q = p + 1 := ⟨q - 1, by omega⟩
      have hqi : IntKind.i64.wrap ((q : Int) - 1) = (p : Int) := by rw [IntWalk.i64_in _ (by omega)]; omega
      have hqi2 : (q : Int) - 1 = (p : Int) := by omega
      have hqi3 : IntKind.i64.wrap (p : Int) = (p : Int) := IntWalk.i64_in _ (by omega)
      have Hp := Lib.hid hp
      obtain ⟨x, hx⟩ : ∃ x, lfIt L k j = x := ⟨_, rfl⟩
      have HS : Hid (lfIt L k (j + 1) = lfAt L x) := Lib.hid (by rw [lfIt, hx])
      rw [hx] at hkj ⊢
      obtain ⟨b, o, hA, hbl, hc⟩ := HLr.out x (lfAt L x : Int) (by rw [List.getElem?_map, List.getElem?_range hkj]; rfl)
      subst hA
      have hxn : (x : Int) < (n : Int) := by omega
      clear hx hj hp
      go_wp2
      go_round
      case rel => exact ⟨j + 1, p, by have := HJ.out; have := Hp.out; omega, rfl, by rw [HS.out]⟩
      case measure => have := Hp.out; simp [intOf]; omega
    · have hq1 : decide ((0 : Int) < (q : Int)) = false := by simp; omega
      have HE : Hid (lfIt L k j = lfIt L k m) := Lib.hid (by rw [show j = m by omega])
      rw [HE.out]
      clear hj
      go_wp2
      go_ret
      exact ⟨rfl, HB.out⟩

set_option maxHeartbeats 1600000 in
theorem specSteps_no (A : Option Addr) (n c : Nat) (L : List Int) (k m : Int) (w : World) (hL : Lies w I A L) (Hn : Hid (L.length = n)) (h : ¬ (symOk L = true ∧ (0 ≤ k ∧ k < n) ∧ 0 ≤ m ∧ m ≤ 301)) :
    Calls Try.prog 42 #[.slice A n c, .int .i64 k, .int .i64 m] w fun e w' => e = .returned (.int .i64 (-1)) ∧ Below w.heap.size w w' := by
  have HC := Lib.hid (specSymsOk_any A c L w hL)
  rw [Hn.out] at HC
  clear hL
  go_enter Try.func42, Try.ntmps42
  go_wp2_with fail
  refine HC.out.mono ?_
  rintro e w1 ⟨rfl, rfl⟩
  by_cases hs : symOk L = true
  · rw [hs]
    by_cases h1 : k < 0
    · have d1 : decide (k < 0) = true := by simpa using h1
      clear h hs
      go_wp2
      go_ret
      exact ⟨rfl, Below.refl _ _⟩
    · have d1 : decide (k < 0) = false := by simp; omega
      by_cases h2 : (n : Int) ≤ k
      · have d2 : decide ((n : Int) ≤ k) = true := by simpa using h2
        clear h hs
        go_wp2
        go_ret
        exact ⟨rfl, Below.refl _ _⟩
      · have d2 : decide ((n : Int) ≤ k) = false := by simp; omega
        by_cases h3 : m < 0
        · have d3 : decide (m < 0) = true := by simpa using h3
          clear h hs
          go_wp2
          go_ret
          exact ⟨rfl, Below.refl _ _⟩
        · have d3 : decide (m < 0) = false := by simp; omega
          have h4 : 301 < m := by
            refine Classical.byContradiction fun hc => h ⟨hs, ⟨by omega, by omega⟩, by omega, by omega⟩
          have d4 : decide (301 < m) = true := by simpa using h4
          clear h hs
          go_wp2
          go_ret
          exact ⟨rfl, Below.refl _ _⟩
  · rw [show symOk L = false by simpa using hs]
    clear h hs
    go_wp2
    go_ret
    exact ⟨rfl, Below.refl _ _⟩

theorem specSteps_any (A : Option Addr) (c : Nat) (L : List Int) (k m : Int) (w : World) (hL : Lies w I A L) :
    Calls Try.prog 42 #[.slice A L.length c, .int .i64 k, .int .i64 m] w fun e w' => e = .returned (.int .i64 (stV L k m)) ∧ Below w.heap.size w w' := by
  unfold stV
  by_cases h : symOk L = true ∧ (0 ≤ k ∧ k < (L.length : Int)) ∧ 0 ≤ m ∧ m ≤ 301
  · obtain ⟨h1, ⟨h2, h3⟩, h4, h5⟩ := h
    obtain ⟨a, rfl⟩ := Int.eq_ofNat_of_zero_le h2
    obtain ⟨b, rfl⟩ := Int.eq_ofNat_of_zero_le h4
    rw [if_pos ((stOk_iff _ _ _).2 ⟨h1, ⟨h2, h3⟩, h4, h5⟩), Int.toNat_natCast, Int.toNat_natCast]
    exact specSteps_yes A L.length c L a b w hL (Lib.hid rfl) (symOk_len h1) (Lib.hid h1) (by omega) (by omega)
  · rw [if_neg (fun hc => h ((stOk_iff _ _ _).1 hc))]
    exact specSteps_no A L.length c L k m w hL (Lib.hid rfl) h

end Go.Proofs.Ytkjelakdejbolaa
