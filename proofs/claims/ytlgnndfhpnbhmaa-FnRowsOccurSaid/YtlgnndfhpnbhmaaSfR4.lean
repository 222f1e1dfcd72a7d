/- RowsOf of the specification. -/
import Derived.Test.YtlgnndfhpnbhmaaSfR1
namespace Go.Proofs.Ytlgnndfhpnbhmaa
open Go.RowKit
set_option maxRecDepth 100000

/-- How many of the first k suffixes are less than the word. -/
def loK (L P : List Nat) (k : Nat) : Nat := (List.range k).countP fun i => decide (lcmp (L.drop i) P < 0)
theorem loK_succ (L P : List Nat) (k : Nat) : loK L P (k + 1) = loK L P k + if lcmp (L.drop k) P < 0 then 1 else 0 := by
  unfold loK
  rw [List.range_succ, List.countP_append]
  by_cases h : lcmp (L.drop k) P < 0 <;> simp [h]
theorem loK_le (L P : List Nat) (k : Nat) : loK L P k ≤ k := Nat.le_trans List.countP_le_length (by simp)

set_option maxHeartbeats 1600000 in
theorem specRowsOf_in (A B : Option Addr) (n c d : Nat) (L P : List Nat) (w : World) (hL : Lies w B8 A L) (hP : Lies w B8 B P) (hA : Tidy A c) (hB : Tidy B d) (hl : ∀ x ∈ L, x < 2 ^ 8) (hp : ∀ x ∈ P, x < 2 ^ 8) (Hn : Hid (L.length = n)) (hn : n ≤ 300) (hc : n ≤ c) (hm : P.length ≤ 17592186044416) :
    Calls Try.prog 26 #[.slice A n c, .slice B P.length d] w fun e w' => e = .returned (.tuple #[.int .i64 (loN L P : Nat), .int .i64 ((loN L P : Nat) + ((occK L P (n + 1)).length : Nat))]) ∧ Below w.heap.size w w' := by
  have HL := Lib.hid hL
  have HP := Lib.hid hP
  have HLb := Lib.hid hl
  have HPb := Lib.hid hp
  have HA := Lib.hid hA
  have HB := Lib.hid hB
  clear hL hP hl hp hA hB
  have t3 : decide (n ≤ 300) = true := by simpa using hn
  have HLo : Hid (loN L P = loK L P (n + 1)) := Lib.hid (by rw [← Hn.out]; rfl)
  go_enter Try.func26, Try.ntmps26
  go_wp2_with fail
  refine (specTextOk_any A n c w).mono ?_
  rintro e w1 ⟨rfl, rfl⟩
  rw [t3]
  go_wp2_with fail
  go_loopw [6, 7] (fun v i wr => ∃ k : Nat, k ≤ n + 1 ∧ i = .int .i64 k ∧ v = .int .i64 (loK L P k : Nat) ∧ Hid (Drawn w1 wr)) (fun _ i _ => n + 1 - (intOf i).toNat)
  case atStart => exact ⟨0, Nat.zero_le _, rfl, rfl, Lib.hid (Drawn.refl _)⟩
  case round =>
    obtain ⟨k, hk, rfl, rfl, HD⟩ := hrel
    have HBw : Hid (Below w1.heap.size w1 wr) := Lib.hid (HD.out.below _)
    by_cases hlt : k ≤ n
    · obtain ⟨A1, hs1, hL1, hA1⟩ := slice_drop Try.elemBytes Try.sizeByte A n c L k wr Hn (HL.out.below HBw.out) HA.out hlt hc
      have HC := Lib.hid (specCmp_any A1 B (c - k) d (L.drop k) P wr hL1 (HP.out.below HBw.out) (by rw [List.length_drop, Hn.out]; omega) hm)
      have HSu := Lib.hid (loK_succ L P k)
      have hle := loK_le L P k
      obtain ⟨v, hv⟩ : ∃ v, loK L P k = v := ⟨_, rfl⟩
      obtain ⟨r, hr⟩ : ∃ r, lcmp (L.drop k) P = r := ⟨_, rfl⟩
      rw [hv, hr] at HSu
      rw [hv] at hle ⊢
      rw [hr] at HC
      clear hL1 hA1 hv hr
      generalize L.drop k = D1 at *
      have hkn : decide ((k : Int) ≤ (n : Int)) = true := by simp; omega
      go_wp2_with fail
      refine HC.out.mono ?_
      rintro e w2 ⟨rfl, hd2⟩
      have HD2 : Hid (Drawn w1 w2) := Lib.hid (by
        obtain ⟨a, ha⟩ := HD.out
        obtain ⟨b, hb⟩ := hd2
        rw [hb, ha]
        exact Drawn.two _ _ _)
      clear hd2
      by_cases h1 : r < 0
      · have d1 : decide (r < 0) = true := by simpa using h1
        have HE : Hid (loK L P (k + 1) = v + 1) := Lib.hid (by rw [HSu.out, if_pos h1])
        go_wp2
        go_roundw
        case rel => exact ⟨k + 1, by omega, by go_num, by rw [HE.out]; go_num, HD2⟩
        case measure => simp [intOf]; omega
      · have d1 : decide (r < 0) = false := by simpa using h1
        have HE : Hid (loK L P (k + 1) = v) := Lib.hid (by rw [HSu.out, if_neg h1]; rfl)
        go_wp2
        go_roundw
        case rel => exact ⟨k + 1, by omega, by go_num, by rw [HE.out], HD2⟩
        case measure => simp [intOf]; omega
    · obtain ⟨q, hq⟩ : ∃ q, n + 1 = q := ⟨_, rfl⟩
      have hkq : k = q := by omega
      have HO := Lib.hid (specOccurs_any A B c d L P wr (HL.out.below HBw.out) (HP.out.below HBw.out) HA.out HB.out HLb.out HPb.out (by rw [Hn.out]; exact hc))
      have hov : occV L P = occK L P q := by unfold occV; rw [Hn.out, if_pos hn, hq]
      rw [hov, Hn.out] at HO
      have hol := occK_len L P q
      have hle := loK_le L P q
      rw [hq] at HLo ⊢
      rw [hkq, ← HLo.out]
      rw [← HLo.out] at hle
      obtain ⟨v, hv⟩ : ∃ v, loN L P = v := ⟨_, rfl⟩
      rw [hv] at hle ⊢
      have HVv := Lib.hid hv
      have Hq := Lib.hid hq
      clear hv
      have hkn : decide ((q : Int) ≤ (n : Int)) = false := by simp; omega
      have hqn : ¬ ((q : Int) ≤ (n : Int)) := by omega
      clear hov hkq
      go_wp2_with fail
      refine HO.out.mono ?_
      rintro e w2 ⟨Ao, co, rfl, ho, hb⟩
      have HB2 : Hid (Below w1.heap.size w1 w2) := Lib.hid (below_then HBw.out hb)
      obtain ⟨u, hu⟩ : ∃ u, (occK L P q).length = u := ⟨_, rfl⟩
      rw [hu] at hol ⊢
      have HU := Lib.hid hu
      clear ho hb hu HO
      go_wp2
      go_ret2
      exact ⟨by rw [HVv.out, Hq.out, HU.out]; rfl, HB2.out⟩

theorem specRowsOf_any (A B : Option Addr) (c d : Nat) (L P : List Nat) (w : World) (hL : Lies w B8 A L) (hP : Lies w B8 B P) (hA : Tidy A c) (hB : Tidy B d) (hl : ∀ x ∈ L, x < 2 ^ 8) (hp : ∀ x ∈ P, x < 2 ^ 8) (hc : L.length ≤ c) (hm : P.length ≤ 17592186044416) :
    Calls Try.prog 26 #[.slice A L.length c, .slice B P.length d] w fun e w' => e = .returned (.tuple #[.int .i64 (loR L P), .int .i64 (hiR L P)]) ∧ Below w.heap.size w w' := by
  unfold loR hiR
  by_cases h3 : L.length ≤ 300
  · rw [if_pos h3, if_pos h3]
    exact specRowsOf_in A B L.length c d L P w hL hP hA hB hl hp (Lib.hid rfl) h3 hc hm
  · rw [if_neg h3, if_neg h3]
    have t3 : decide (L.length ≤ 300) = false := by simpa using h3
    generalize L.length = n at *
    clear hL hP
    go_enter Try.func26, Try.ntmps26
    go_wp2_with fail
    refine (specTextOk_any A n c w).mono ?_
    rintro e w1 ⟨rfl, rfl⟩
    rw [t3]
    go_wp2
    go_ret2
    exact ⟨rfl, Below.refl _ _⟩

end Go.Proofs.Ytlgnndfhpnbhmaa
