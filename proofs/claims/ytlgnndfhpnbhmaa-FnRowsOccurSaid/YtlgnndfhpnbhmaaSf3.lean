/- SuffixCmp. -/
import Derived.Test.YtlgnndfhpnbhmaaSf2
import Derived.Test.YtlgnndfhpnbhmaaSlCut
import Derived.Deep.RegionHeld3
namespace Go.Proofs.Ytlgnndfhpnbhmaa
open Go.RowKit
set_option maxRecDepth 100000

set_option maxHeartbeats 400000 in
theorem implSuffixCmp_in (A : Option Addr) (n c : Nat) (L : List Nat) (i j : Nat) (w : World) (hL : Lies w B8 A L) (hA : Tidy A c) (hl : ∀ x ∈ L, x < 2 ^ 8) (Hn : Hid (L.length = n)) (hn : n ≤ 300) (hc : n ≤ c) (hi : i ≤ n) (hj : j ≤ n) :
    Calls Try.prog 20 #[.slice A n c, .int .i64 i, .int .i64 j] w fun e w' => e = .returned (.int .i64 (lcmp (L.drop i) (L.drop j))) ∧ Drawn w w' := by
  have h1 : decide (n ≤ 300) = true := by simpa using hn
  obtain ⟨A1, hs1, hL1, hA1⟩ := slice_drop Try.elemBytes Try.sizeByte A n c L i w Hn hL hA hi hc
  obtain ⟨A2, hs2, hL2, hA2⟩ := slice_drop Try.elemBytes Try.sizeByte A n c L j w Hn hL hA hj hc
  have HC := Lib.hid fun (q : Nat) => bytesCompare A1 A2 (c - i) (c - j) (L.drop i) (L.drop j) (w.drewN q) hL1 hL2 hA1 hA2 (fun x hx => hl x (List.mem_of_mem_drop hx)) (fun x hx => hl x (List.mem_of_mem_drop hx))
  clear hL hA hl hL1 hL2 hA1 hA2
  generalize L.drop i = D1 at *
  generalize L.drop j = D2 at *
  generalize lcmp D1 D2 = r at *
  go_enter Try.func20, Try.ntmps20
  go_wp2_with fail
  refine (implTextOk_any A n c w).mono ?_
  rintro e w1 ⟨rfl, rfl⟩
  rw [h1]
  go_wp2_with fail
  go_quiet ((go_at_call 48; exact Calls.quiet_of_same (HC.out _)))
  go_wp2
  go_ret
  exact ⟨rfl, _, rfl⟩


set_option maxHeartbeats 400000 in
theorem specSuffixCmp_in (A : Option Addr) (n c : Nat) (L : List Nat) (i j : Nat) (w : World) (hL : Lies w B8 A L) (hA : Tidy A c) (Hn : Hid (L.length = n)) (hn : n ≤ 300) (hc : n ≤ c) (hi : i ≤ n) (hj : j ≤ n) :
    Calls Try.prog 19 #[.slice A n c, .int .i64 i, .int .i64 j] w fun e w' => e = .returned (.int .i64 (lcmp (L.drop i) (L.drop j))) ∧ Drawn w w' := by
  have h1 : decide (n ≤ 300) = true := by simpa using hn
  have hLn := Hn.out
  obtain ⟨A1, hs1, hL1, hA1⟩ := slice_drop Try.elemBytes Try.sizeByte A n c L i w Hn hL hA hi hc
  obtain ⟨A2, hs2, hL2, hA2⟩ := slice_drop Try.elemBytes Try.sizeByte A n c L j w Hn hL hA hj hc
  have HC := Lib.hid fun (q : Nat) => specCmp_any A1 A2 (c - i) (c - j) (L.drop i) (L.drop j) (w.drewN q) hL1 hL2 (by rw [List.length_drop]; omega) (by rw [List.length_drop]; omega)
  clear hL hA hL1 hL2 hA1 hA2 hLn
  generalize L.drop i = D1 at *
  generalize L.drop j = D2 at *
  generalize lcmp D1 D2 = r at *
  go_enter Try.func19, Try.ntmps19
  go_wp2_with fail
  refine (specTextOk_any A n c w).mono ?_
  rintro e w1 ⟨rfl, rfl⟩
  rw [h1]
  go_wp2_with fail
  go_quiet ((go_at_call 47; exact Calls.quiet_of (HC.out _)))
  go_wp2
  go_ret
  exact ⟨rfl, _, rfl⟩

set_option maxHeartbeats 400000 in
theorem implSuffixCmp_out (A : Option Addr) (n c : Nat) (i j : Int) (w : World) (h : ¬ (n ≤ 300 ∧ (0 ≤ i ∧ i ≤ n) ∧ 0 ≤ j ∧ j ≤ n)) :
    Calls Try.prog 20 #[.slice A n c, .int .i64 i, .int .i64 j] w fun e w' => e = .returned (.int .i64 0) ∧ Drawn w w' := by
  go_enter Try.func20, Try.ntmps20
  go_wp2_with fail
  refine (implTextOk_any A n c w).mono ?_
  rintro e w1 ⟨rfl, rfl⟩
  by_cases hn : n ≤ 300
  · rw [decide_eq_true hn]
    go_wp2_with fail
    all_goals first | (exfalso; omega) | (go_ret; exact ⟨rfl, Drawn.refl _⟩) | (go_wp2; go_ret; exact ⟨rfl, Drawn.refl _⟩)
  · rw [decide_eq_false hn]
    go_wp2
    go_ret
    exact ⟨rfl, Drawn.refl _⟩

set_option maxHeartbeats 400000 in
theorem specSuffixCmp_out (A : Option Addr) (n c : Nat) (i j : Int) (w : World) (h : ¬ (n ≤ 300 ∧ (0 ≤ i ∧ i ≤ n) ∧ 0 ≤ j ∧ j ≤ n)) :
    Calls Try.prog 19 #[.slice A n c, .int .i64 i, .int .i64 j] w fun e w' => e = .returned (.int .i64 0) ∧ Drawn w w' := by
  go_enter Try.func19, Try.ntmps19
  go_wp2_with fail
  refine (specTextOk_any A n c w).mono ?_
  rintro e w1 ⟨rfl, rfl⟩
  by_cases hn : n ≤ 300
  · rw [decide_eq_true hn]
    go_wp2_with fail
    all_goals first | (exfalso; omega) | (go_ret; exact ⟨rfl, Drawn.refl _⟩) | (go_wp2; go_ret; exact ⟨rfl, Drawn.refl _⟩)
  · rw [decide_eq_false hn]
    go_wp2
    go_ret
    exact ⟨rfl, Drawn.refl _⟩

/-- What SuffixCmp is to return. -/
def scV (L : List Nat) (i j : Int) : Int := if L.length ≤ 300 ∧ (0 ≤ i ∧ i ≤ (L.length : Int)) ∧ 0 ≤ j ∧ j ≤ (L.length : Int) then lcmp (L.drop i.toNat) (L.drop j.toNat) else 0

theorem implSuffixCmp_any (A : Option Addr) (c : Nat) (L : List Nat) (i j : Int) (w : World) (hL : Lies w B8 A L) (hA : Tidy A c) (hl : ∀ x ∈ L, x < 2 ^ 8) (hc : L.length ≤ c) :
    Calls Try.prog 20 #[.slice A L.length c, .int .i64 i, .int .i64 j] w fun e w' => e = .returned (.int .i64 (scV L i j)) ∧ Drawn w w' := by
  unfold scV
  by_cases h : L.length ≤ 300 ∧ (0 ≤ i ∧ i ≤ (L.length : Int)) ∧ 0 ≤ j ∧ j ≤ (L.length : Int)
  · rw [if_pos h]
    obtain ⟨h0, ⟨h1, h2⟩, h3, h4⟩ := h
    obtain ⟨a, rfl⟩ := Int.eq_ofNat_of_zero_le h1
    obtain ⟨b, rfl⟩ := Int.eq_ofNat_of_zero_le h3
    exact implSuffixCmp_in A L.length c L a b w hL hA hl (Lib.hid rfl) h0 hc (by omega) (by omega)
  · rw [if_neg h]
    exact implSuffixCmp_out A L.length c i j w h

theorem specSuffixCmp_any (A : Option Addr) (c : Nat) (L : List Nat) (i j : Int) (w : World) (hL : Lies w B8 A L) (hA : Tidy A c) (hl : ∀ x ∈ L, x < 2 ^ 8) (hc : L.length ≤ c) :
    Calls Try.prog 19 #[.slice A L.length c, .int .i64 i, .int .i64 j] w fun e w' => e = .returned (.int .i64 (scV L i j)) ∧ Drawn w w' := by
  unfold scV
  by_cases h : L.length ≤ 300 ∧ (0 ≤ i ∧ i ≤ (L.length : Int)) ∧ 0 ≤ j ∧ j ≤ (L.length : Int)
  · rw [if_pos h]
    obtain ⟨h0, ⟨h1, h2⟩, h3, h4⟩ := h
    obtain ⟨a, rfl⟩ := Int.eq_ofNat_of_zero_le h1
    obtain ⟨b, rfl⟩ := Int.eq_ofNat_of_zero_le h3
    exact specSuffixCmp_in A L.length c L a b w hL hA (Lib.hid rfl) h0 hc (by omega) (by omega)
  · rw [if_neg h]
    exact specSuffixCmp_out A L.length c i j w h

end Go.Proofs.Ytlgnndfhpnbhmaa
