import Derived.Test.YtoehgcakfblblaaDoorProg
import Derived.Test.YtoehgcakfblblaaDoorDraw3
/- The laws' own comparison of two lists of numbers (the text of eqInt, at another function). -/
namespace Go.Proofs.YtoehgcakfblblaaDoor
open Go.RowKit
set_option maxRecDepth 100000

set_option maxHeartbeats 400000 in
theorem sameInt_len (A B : Option Addr) (n m c d : Nat) (w : World) (h : n ≠ m) :
    Calls Tryd.prog 8 #[.slice A n c, .slice B m d] w fun e w' => e = .returned (.bool false) ∧ w = w' := by
  have h1 : (n != m) = true := by simpa using h
  have h2 : ((n : Int) != (m : Int)) = true := by rw [bne_iff_ne]; omega
  have h3 : ¬ ((n : Int) = (m : Int)) := by omega
  go_enter Tryd.func8, Tryd.ntmps8
  go_wp2
  go_ret
  exact ⟨rfl, rfl⟩

set_option maxHeartbeats 400000 in
theorem sameInt_same (A B : Option Addr) (n c d : Nat) (L M : List Int) (w : World) (hL : Lies w I A L) (hM : Lies w I B M) (hl : L.length = n) (hm : M.length = n) (hn : n ≤ 17592186044416) :
    Calls Tryd.prog 8 #[.slice A n c, .slice B n d] w fun e w' => e = .returned (.bool (decide (L = M))) ∧ Drawn w w' := by
  have HL := Lib.hid hl
  have HM := Lib.hid hm
  clear hl hm
  go_enter Tryd.func8, Tryd.ntmps8
  go_wp2
  go_loopw [5] (fun i wr => ∃ k : Nat, k ≤ n ∧ i = .int .i64 k ∧ L.take k = M.take k ∧ Drawn w wr) (fun i _ => n - (intOf i).toNat)
  case atStart => exact ⟨0, Nat.zero_le _, rfl, by simp, Drawn.refl _⟩
  case round =>
    obtain ⟨k, hk, rfl, htk, m, rfl⟩ := hrel
    have HT := Lib.hid htk
    clear htk
    by_cases hlt : k < n
    · obtain ⟨b, o, x, rfl, hbl, hx, hc⟩ := hL.at_ (i := k) (by rw [HL.out]; exact hlt)
      obtain ⟨b', o', y, rfl, hbl', hy, hc'⟩ := hM.at_ (i := k) (by rw [HM.out]; exact hlt)
      have HX := Lib.hid hx
      have HY := Lib.hid hy
      clear hx hy hL hM
      by_cases hxy : x = y
      · subst hxy
        go_wp2
        go_quiet (fail)
        go_wp2
        go_roundw
        case rel => exact ⟨k + 1, by omega, by go_num, take_same_succ HT.out HX.out HY.out, ⟨_, rfl⟩⟩
        case measure => simp [intOf]; omega
      · have hne : (x != y) = true := by simpa using hxy
        have HF := Lib.hid (decide_eq_false (ne_of_at HX.out HY.out hxy))
        go_wp2
        go_quiet (fail)
        go_wp2
        go_ret
        exact ⟨ret_bool HF.out.symm, Drawn.two _ _ _⟩
    · go_wp2
      go_ret
      have e : L = M := by
        have h := HT.out
        rwa [List.take_of_length_le (by rw [HL.out]; omega), List.take_of_length_le (by rw [HM.out]; omega)] at h
      exact ⟨ret_bool (decide_eq_true e).symm, ⟨_, rfl⟩⟩

theorem sameInt (A B : Option Addr) (c d : Nat) (L M : List Int) (w : World) (hL : Lies w I A L) (hM : Lies w I B M) (hn : L.length ≤ 17592186044416) :
    Calls Tryd.prog 8 #[.slice A L.length c, .slice B M.length d] w fun e w' => e = .returned (.bool (decide (L = M))) ∧ Drawn w w' := by
  by_cases h : L.length = M.length
  · rw [← h]
    exact sameInt_same A B L.length c d L M w hL hM rfl h.symm hn
  · refine (sameInt_len A B L.length M.length c d w h).mono fun e w' ⟨he, hw⟩ => ⟨?_, by rw [← hw]; exact Drawn.refl _⟩
    rw [he, decide_eq_false (fun e => h (by rw [e]))]

end Go.Proofs.YtoehgcakfblblaaDoor

/- The laws' count of a number in a list. -/
namespace Go.Proofs.YtoehgcakfblblaaDoor
open Go.RowKit
set_option maxRecDepth 100000

theorem count_take (L : List Int) (x y : Int) (k : Nat) (h : L[k]? = some y) : (L.take (k + 1)).count x = (L.take k).count x + if y = x then 1 else 0 := by
  rw [List.take_add_one, h, Option.toList_some, List.count_append, List.count_singleton]
  by_cases e : y = x <;> simp [e]

set_option maxHeartbeats 800000 in
theorem count_any (A : Option Addr) (n c : Nat) (L : List Int) (x : Int) (w : World) (hL : Lies w I A L) (Hn : Hid (L.length = n)) (hn : n ≤ 17592186044416) :
    Calls Tryd.prog 14 #[.slice A n c, .int .i64 x] w fun e w' => e = .returned (.int .i64 (L.count x : Nat)) ∧ w' = w := by
  go_enter Tryd.func14, Tryd.ntmps14
  go_wp2
  go_loop [5, 6] (fun q i => ∃ k : Nat, k ≤ n ∧ i = .int .i64 k ∧ q = .int .i64 ((L.take k).count x : Nat)) (fun _ i => n - (intOf i).toNat)
  case atStart => exact ⟨0, Nat.zero_le _, rfl, rfl⟩
  case round =>
    obtain ⟨k, hk, rfl, rfl⟩ := hrel
    by_cases hlt : k < n
    · obtain ⟨b, o, y, hA, hbl, hy, hc⟩ := hL.at_ (i := k) (by rw [Hn.out]; exact hlt)
      subst hA
      have HS := Lib.hid (count_take L x y k hy)
      have hle : (L.take k).count x ≤ k := Nat.le_trans List.count_le_length (by rw [List.length_take]; omega)
      obtain ⟨v, hv⟩ : ∃ v, (L.take k).count x = v := ⟨_, rfl⟩
      rw [hv] at HS hle ⊢
      clear hy hv
      by_cases hyx : y = x
      · rw [if_pos hyx] at HS
        have he : (y == x) = true := by simpa using hyx
        go_wp2
        go_round
        case rel => exact ⟨k + 1, by omega, by go_num, by rw [HS.out]; go_num⟩
        case measure => simp [intOf]; omega
      · rw [if_neg hyx] at HS
        have he : (y == x) = false := by simpa using hyx
        go_wp2
        go_round
        case rel => exact ⟨k + 1, by omega, by go_num, by rw [HS.out]; go_num⟩
        case measure => simp [intOf]; omega
    · obtain rfl : k = n := by omega
      have HE : Hid ((L.take k).count x = L.count x) := Lib.hid (by rw [List.take_of_length_le (by rw [Hn.out]; exact Nat.le_refl _)])
      rw [HE.out]
      go_wp2
      go_ret
      exact ⟨rfl, rfl⟩

end Go.Proofs.YtoehgcakfblblaaDoor
