/- Lists compared by the specification. -/
import Derived.Test.YtoehgcakfblblaaProg
import Derived.Test.YtoehgcakfblblaaLaws2
namespace Go.Proofs.Ytoehgcakfblblaa
open Go.RowKit

set_option maxHeartbeats 400000 in
theorem sameL_len (A B : Option Addr) (n m c d : Nat) (w : World) (h : n ≠ m) :
    Calls Try.prog 97 #[.slice A n c, .slice B m d] w fun e w' => e = .returned (.bool false) ∧ w = w' := by
  have h1 : (n != m) = true := by simpa using h
  have h2 : ((n : Int) != (m : Int)) = true := by rw [bne_iff_ne]; omega
  have h3 : ¬ ((n : Int) = (m : Int)) := by omega
  go_enter Try.func97, Try.ntmps97
  go_wp2
  go_ret
  exact ⟨rfl, rfl⟩

set_option maxHeartbeats 400000 in
theorem sameL_same (A B : Option Addr) (n c d : Nat) (L M : List Int) (w : World) (hL : Lies w I A L) (hM : Lies w I B M) (hl : L.length = n) (hm : M.length = n) (hn : n ≤ 17592186044416) :
    Calls Try.prog 97 #[.slice A n c, .slice B n d] w fun e w' => e = .returned (.bool (decide (L = M))) ∧ Drawn w w' := by
  have HL := Lib.hid hl
  have HM := Lib.hid hm
  clear hl hm
  go_enter Try.func97, Try.ntmps97
  go_wp2
  go_loopw [5] (fun i wr => ∃ k : Nat, k ≤ n ∧ i = .int .i64 k ∧ L.take k = M.take k ∧ Drawn w wr) (fun i _ => n - (intOf i).toNat)
  case atStart => exact ⟨0, Nat.zero_le _, rfl, by simp, Drawn.refl _⟩
  case round =>
    obtain ⟨k, hk, rfl, htk, m, rfl⟩ := hrel
    have HT := Lib.hid htk
    clear htk
    by_cases hlt : k < n
    · obtain ⟨b, o, x, rfl, hbl, hx, hc⟩ := hL.at_ (i := k) (by rw [HL.out]; exact hlt)
      obtain ⟨b', o', y, rfl, hbl', hy, hc'⟩ := hM.at_ (i := k) (by rw [HM.out]; exact hlt)
      have HX := Lib.hid hx
      have HY := Lib.hid hy
      clear hx hy hL hM
      by_cases hxy : x = y
      · subst hxy
        go_wp2
        go_quiet (fail)
        go_wp2
        go_roundw
        case rel => exact ⟨k + 1, by omega, by go_num, take_same_succ HT.out HX.out HY.out, ⟨_, rfl⟩⟩
        case measure => simp [intOf]; omega
      · have hne : (x != y) = true := by simpa using hxy
        have HF := Lib.hid (decide_eq_false (ne_of_at HX.out HY.out hxy))
        go_wp2
        go_quiet (fail)
        go_wp2
        go_ret
        exact ⟨ret_bool HF.out.symm, Drawn.two _ _ _⟩
    · go_wp2
      go_ret
      have e : L = M := by
        have h := HT.out
        rwa [List.take_of_length_le (by rw [HL.out]; omega), List.take_of_length_le (by rw [HM.out]; omega)] at h
      exact ⟨ret_bool (decide_eq_true e).symm, ⟨_, rfl⟩⟩

theorem sameL (A B : Option Addr) (c d : Nat) (L M : List Int) (w : World) (hL : Lies w I A L) (hM : Lies w I B M) (hn : L.length ≤ 17592186044416) :
    Calls Try.prog 97 #[.slice A L.length c, .slice B M.length d] w fun e w' => e = .returned (.bool (decide (L = M))) ∧ Drawn w w' := by
  by_cases h : L.length = M.length
  · rw [← h]
    exact sameL_same A B L.length c d L M w hL hM rfl h.symm hn
  · refine (sameL_len A B L.length M.length c d w h).mono fun e w' ⟨he, hw⟩ => ⟨?_, by rw [← hw]; exact Drawn.refl _⟩
    rw [he, decide_eq_false (fun e => h (by rw [e]))]

end Go.Proofs.Ytoehgcakfblblaa
