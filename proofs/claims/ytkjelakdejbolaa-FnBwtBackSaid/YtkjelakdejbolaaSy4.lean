/- Runs, of the program and of the specification. -/
import Derived.Test.YtkjelakdejbolaaSy1
import Derived.Test.YtkjelakdejbolaaSf2
namespace Go.Proofs.Ytkjelakdejbolaa
open Go.RowKit
set_option maxRecDepth 100000

theorem runs_first (L : List Int) : runsK L 1 = 1 := by
  rw [runsK_succ]
  simp [runsK, runAt]
theorem runs_other {L : List Int} {p : Nat} {x y : Int} (hx : L[p]? = some x) (hy : L[p + 1]? = some y) (h : y ≠ x) : runsK L (p + 1 + 1) = runsK L (p + 1) + 1 := by
  rw [runsK_succ, if_pos]
  unfold runAt
  rw [Nat.add_sub_cancel, getD_int hx, getD_int hy]
  simp [h]
theorem runs_same {L : List Int} {p : Nat} {x : Int} (hx : L[p]? = some x) (hy : L[p + 1]? = some x) : runsK L (p + 1 + 1) = runsK L (p + 1) := by
  rw [runsK_succ, if_neg]
  · rfl
  unfold runAt
  rw [Nat.add_sub_cancel, getD_int hx, getD_int hy]
  simp

set_option maxHeartbeats 1600000 in
theorem implRuns_in (A : Option Addr) (n c : Nat) (L : List Int) (w : World) (hL : Lies w I A L) (Hn : Hid (L.length = n)) (hn : n ≤ 301) (HOk : Hid (symOk L = true)) :
    Calls Try.prog 19 #[.slice A n c] w fun e w' => e = .returned (.int .i64 (runsK L n : Nat)) ∧ w' = w := by
  have HC := Lib.hid (implSymsOk_any A c L w hL)
  rw [Hn.out, HOk.out] at HC
  go_enter Try.func19, Try.ntmps19
  go_wp2_with fail
  refine HC.out.mono ?_
  rintro e w1 ⟨rfl, rfl⟩
  go_wp2
  go_loop [3, 11] (fun a i => ∃ k : Nat, k ≤ n ∧ i = .int .i64 k ∧ a = .int .i64 (runsK L k : Nat)) (fun _ i => n - (intOf i).toNat)
  case atStart => exact ⟨0, Nat.zero_le _, rfl, rfl⟩
  case round =>
    obtain ⟨k, hk, rfl, rfl⟩ := hrel
    by_cases hlt : k < n
    · obtain ⟨b, o, y, hA, hbl, hy, hc⟩ := hL.at_ (i := k) (by rw [Hn.out]; exact hlt)
      subst hA
      have hle := runsK_le L k
      by_cases h0 : k = 0
      · subst h0
        have HS := Lib.hid (runs_first L)
        rw [Nat.add_zero] at hc
        have hr0 : runsK L 0 = 0 := rfl
        rw [hr0]
        clear hy hle hr0
        go_wp2
        go_round
        case rel => exact ⟨1, by omega, by go_num, by rw [HS.out]; go_num⟩
        case measure => simp [intOf]; omega
      · obtain ⟨p, hp⟩ : ∃ p, k = p + 1 := ⟨k - 1, by omega⟩
        obtain ⟨b', o', x, hA, hbl', hx, hcx⟩ := hL.at_ (i := p) (by rw [Hn.out]; omega)
        cases hA
        have hk0 : ((k : Int) == 0) = false := by rw [beq_eq_false_iff_ne]; omega
        have hki : IntKind.i64.wrap ((k : Int) - 1) = (p : Int) := by rw [IntWalk.i64_in _ (by omega)]; omega
        have hki2 : (k : Int) - 1 = (p : Int) := by omega
        have hpn : p < n := by omega
        have hpn2 : (p : Int) < (n : Int) := by omega
        by_cases hxy : y = x
        · subst hxy
          have HS : Hid (runsK L (k + 1) = runsK L k) := Lib.hid (by subst hp; exact runs_same hx hy)
          obtain ⟨v, hv⟩ : ∃ v, runsK L k = v := ⟨_, rfl⟩
          rw [hv] at HS hle ⊢
          have he : (y != y) = false := by simp
          clear hx hy hp hv
          go_wp2
          go_round
          case rel => exact ⟨k + 1, by omega, by go_num, by rw [HS.out]⟩
          case measure => simp [intOf]; omega
        · have HS : Hid (runsK L (k + 1) = runsK L k + 1) := Lib.hid (by subst hp; exact runs_other hx hy hxy)
          obtain ⟨v, hv⟩ : ∃ v, runsK L k = v := ⟨_, rfl⟩
          rw [hv] at HS hle ⊢
          have he : (y != x) = true := by simpa using hxy
          clear hx hy hp hv
          go_wp2
          go_round
          case rel => exact ⟨k + 1, by omega, by go_num, by rw [HS.out]; go_num⟩
          case measure => simp [intOf]; omega
    · obtain rfl : k = n := by omega
      go_wp2
      go_ret
      exact ⟨rfl, rfl⟩

theorem implRuns_any (A : Option Addr) (c : Nat) (L : List Int) (w : World) (hL : Lies w I A L) :
    Calls Try.prog 19 #[.slice A L.length c] w fun e w' => e = .returned (.int .i64 (runsV L)) ∧ Below w.heap.size w w' := by
  unfold runsV
  by_cases h : symOk L = true
  · rw [if_pos h]
    exact (implRuns_in A L.length c L w hL (Lib.hid rfl) (symOk_len h) (Lib.hid h)).mono fun _ _ h => ⟨h.1, by rw [h.2]; exact Below.refl _ _⟩
  · rw [if_neg h]
    have HC := Lib.hid (implSymsOk_any A c L w hL)
    rw [show symOk L = false by simpa using h] at HC
    generalize L.length = n at *
    clear hL h
    go_enter Try.func19, Try.ntmps19
    go_wp2_with fail
    refine HC.out.mono ?_
    rintro e w1 ⟨rfl, rfl⟩
    go_wp2
    go_ret
    exact ⟨rfl, Below.refl _ _⟩

set_option maxHeartbeats 1600000 in
theorem specRuns_in (A : Option Addr) (n c : Nat) (L : List Int) (w : World) (hL : Lies w I A L) (Hn : Hid (L.length = n)) (hn : n ≤ 301) (HOk : Hid (symOk L = true)) :
    Calls Try.prog 20 #[.slice A n c] w fun e w' => e = .returned (.int .i64 (runsK L n : Nat)) ∧ Drawn w w' := by
  have HL := Lib.hid hL
  have HC := Lib.hid (specSymsOk_any A c L w hL)
  rw [Hn.out, HOk.out] at HC
  clear hL
  go_enter Try.func20, Try.ntmps20
  go_wp2_with fail
  refine HC.out.mono ?_
  rintro e w1 ⟨rfl, rfl⟩
  go_wp2
  go_loopw [3, 4] (fun a i wr => ∃ k : Nat, k ≤ n ∧ i = .int .i64 k ∧ a = .int .i64 (runsK L k : Nat) ∧ Hid (Drawn w1 wr)) (fun _ i _ => n - (intOf i).toNat)
  case atStart => exact ⟨0, Nat.zero_le _, rfl, rfl, Lib.hid (Drawn.refl _)⟩
  case round =>
    obtain ⟨k, hk, rfl, rfl, HDr⟩ := hrel
    by_cases hlt : k < n
    · obtain ⟨b, o, y, hA, hbl, hy, hc0⟩ := HL.out.at_ (i := k) (by rw [Hn.out]; exact hlt)
      subst hA
      have hc : wr.cell? ⟨b, o + k, none⟩ = some (I y) := ((HDr.out.below _).cell (p := ⟨b, o + k, none⟩) hbl).trans hc0
      have hle := runsK_le L k
      clear hc0
      by_cases h0 : k = 0
      · subst h0
        have HS := Lib.hid (runs_first L)
        rw [Nat.add_zero] at hc
        have hr0 : runsK L 0 = 0 := rfl
        rw [hr0]
        clear hy hle hr0
        go_wp2
        go_quiet (fail)
        go_wp2
        go_roundw
        case rel => exact ⟨1, by omega, by go_num, by rw [HS.out]; go_num, Lib.hid (HDr.out.more _)⟩
        case measure => simp [intOf]; omega
      · obtain ⟨p, hp⟩ : ∃ p, k = p + 1 := ⟨k - 1, by omega⟩
        obtain ⟨b', o', x, hA, hbl', hx, hcx0⟩ := HL.out.at_ (i := p) (by rw [Hn.out]; omega)
        cases hA
        have hcx : wr.cell? ⟨b, o + p, none⟩ = some (I x) := ((HDr.out.below _).cell (p := ⟨b, o + p, none⟩) hbl).trans hcx0
        have hk0 : ((k : Int) == 0) = false := by rw [beq_eq_false_iff_ne]; omega
        have hki : IntKind.i64.wrap ((k : Int) - 1) = (p : Int) := by rw [IntWalk.i64_in _ (by omega)]; omega
        have hki2 : (k : Int) - 1 = (p : Int) := by omega
        have hpn : p < n := by omega
        have hpn2 : (p : Int) < (n : Int) := by omega
        have hkn2 : (k : Int) < (n : Int) := by omega
        clear hcx0
        by_cases hxy : y = x
        · subst hxy
          have HS : Hid (runsK L (k + 1) = runsK L k) := Lib.hid (by subst hp; exact runs_same hx hy)
          obtain ⟨v, hv⟩ : ∃ v, runsK L k = v := ⟨_, rfl⟩
          rw [hv] at HS hle ⊢
          have he : (y != y) = false := by simp
          clear hx hy hp hv
          go_wp2
          go_quiet (fail)
          go_wp2
          go_roundw
          case rel => exact ⟨k + 1, by omega, by go_num, by rw [HS.out], Lib.hid (HDr.out.more _)⟩
          case measure => simp [intOf]; omega
        · have HS : Hid (runsK L (k + 1) = runsK L k + 1) := Lib.hid (by subst hp; exact runs_other hx hy hxy)
          obtain ⟨v, hv⟩ : ∃ v, runsK L k = v := ⟨_, rfl⟩
          rw [hv] at HS hle ⊢
          have he : (y != x) = true := by simpa using hxy
          clear hx hy hp hv
          go_wp2
          go_quiet (fail)
          go_wp2
          go_roundw
          case rel => exact ⟨k + 1, by omega, by go_num, by rw [HS.out]; go_num, Lib.hid (HDr.out.more _)⟩
          case measure => simp [intOf]; omega
    · obtain rfl : k = n := by omega
      go_wp2
      go_ret
      exact ⟨rfl, HDr.out⟩

theorem specRuns_any (A : Option Addr) (c : Nat) (L : List Int) (w : World) (hL : Lies w I A L) :
    Calls Try.prog 20 #[.slice A L.length c] w fun e w' => e = .returned (.int .i64 (runsV L)) ∧ Below w.heap.size w w' := by
  unfold runsV
  by_cases h : symOk L = true
  · rw [if_pos h]
    exact (specRuns_in A L.length c L w hL (Lib.hid rfl) (symOk_len h) (Lib.hid h)).mono fun _ _ h => ⟨h.1, h.2.below _⟩
  · rw [if_neg h]
    have HC := Lib.hid (specSymsOk_any A c L w hL)
    rw [show symOk L = false by simpa using h] at HC
    generalize L.length = n at *
    clear hL h
    go_enter Try.func20, Try.ntmps20
    go_wp2_with fail
    refine HC.out.mono ?_
    rintro e w1 ⟨rfl, rfl⟩
    go_wp2
    go_ret
    exact ⟨rfl, Below.refl _ _⟩

end Go.Proofs.Ytkjelakdejbolaa
