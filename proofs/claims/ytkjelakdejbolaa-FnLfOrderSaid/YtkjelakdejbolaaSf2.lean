/- TextOk and SuffixCmp, of the program and of the specification. -/
import Derived.Test.YtkjelakdejbolaaSf1
namespace Go.Proofs.Ytkjelakdejbolaa
open Go.RowKit
set_option maxRecDepth 100000

set_option maxHeartbeats 400000 in
theorem implTextOk_any (A : Option Addr) (n c : Nat) (w : World) :
    Calls Try.prog 45 #[.slice A n c] w fun e w' => e = .returned (.bool (decide (n ≤ 300))) ∧ w' = w := by
  go_enter Try.func45, Try.ntmps45
  go_wp2
  go_ret
  exact ⟨ret_bool (by simp; omega), rfl⟩

set_option maxHeartbeats 400000 in
theorem specTextOk_any (A : Option Addr) (n c : Nat) (w : World) :
    Calls Try.prog 17 #[.slice A n c] w fun e w' => e = .returned (.bool (decide (n ≤ 300))) ∧ w' = w := by
  go_enter Try.func17, Try.ntmps17
  go_wp2
  go_ret
  exact ⟨ret_bool (by simp; omega), rfl⟩

theorem Drawn.three (w : World) (a b c : Nat) : Drawn w (((w.drewN a).drewN b).drewN c) := ⟨a + b + c, by simp⟩

theorem lcmp_same {k : Nat} {L M : List Nat} (h : L.take k = M.take k) : lcmp L M = lcmp (L.drop k) (M.drop k) := by
  rw [lcmp_split k, h, lcmp_self, if_pos rfl]
theorem lcmp_at {k : Nat} {L M : List Nat} {x y : Nat} (h : L.take k = M.take k) (hx : L[k]? = some x) (hy : M[k]? = some y) (hne : x ≠ y) : lcmp L M = if x < y then -1 else 1 := by
  obtain ⟨hk, rfl⟩ := List.getElem?_eq_some_iff.1 hx
  obtain ⟨hk', rfl⟩ := List.getElem?_eq_some_iff.1 hy
  rw [lcmp_same h, List.drop_eq_getElem_cons hk, List.drop_eq_getElem_cons hk', lcmp_cons]
  by_cases h1 : L[k] < M[k]
  · rw [if_pos h1, if_pos h1]
  · rw [if_neg h1, if_neg h1, if_pos (by omega)]
theorem lcmp_end {k : Nat} {L M : List Nat} (h : L.take k = M.take k) (hk : k = L.length ∨ k = M.length) (h1 : k ≤ L.length) (h2 : k ≤ M.length) : lcmp L M = if L.length < M.length then -1 else if M.length < L.length then 1 else 0 := by
  rw [lcmp_same h]
  rcases hk with rfl | rfl
  · rw [List.drop_of_length_le (Nat.le_refl _)]
    cases hm : M.drop L.length with
    | nil =>
      have := congrArg List.length hm
      simp at this
      rw [if_neg (by omega), if_neg (by omega)]
      rfl
    | cons y r =>
      have := congrArg List.length hm
      simp at this
      rw [if_pos (by omega)]
      rfl
  · rw [List.drop_of_length_le (l := M) (Nat.le_refl _)]
    cases hm : L.drop M.length with
    | nil =>
      have := congrArg List.length hm
      simp at this
      rw [if_neg (by omega), if_neg (by omega)]
      rfl
    | cons y r =>
      have := congrArg List.length hm
      simp at this
      rw [if_neg (by omega), if_pos (by omega)]
      rfl

set_option maxHeartbeats 800000 in
theorem specCmp_any (A B : Option Addr) (c d : Nat) (L M : List Nat) (w : World) (hL : Lies w B8 A L) (hM : Lies w B8 B M) (hn : L.length ≤ 17592186044416) (hm : M.length ≤ 17592186044416) :
    Calls Try.prog 48 #[.slice A L.length c, .slice B M.length d] w fun e w' => e = .returned (.int .i64 (lcmp L M)) ∧ Drawn w w' := by
  go_enter Try.func48, Try.ntmps48
  go_wp2
  go_loopw [5] (fun i wr => ∃ k : Nat, k ≤ L.length ∧ k ≤ M.length ∧ i = .int .i64 k ∧ Hid (L.take k = M.take k) ∧ Drawn w wr) (fun i _ => L.length - (intOf i).toNat)
  case atStart => exact ⟨0, Nat.zero_le _, Nat.zero_le _, rfl, Lib.hid (by simp), Drawn.refl _⟩
  case round =>
    obtain ⟨k, hk, hk2, rfl, HT, m, rfl⟩ := hrel
    by_cases hlt : k < L.length
    · by_cases hlt2 : k < M.length
      · obtain ⟨b, o, x, rfl, hbl, hx, hc⟩ := hL.at_ (i := k) hlt
        obtain ⟨b', o', y, rfl, hbl', hy, hc'⟩ := hM.at_ (i := k) hlt2
        have HX := Lib.hid hx
        have HY := Lib.hid hy
        clear hx hy hL hM
        by_cases hxy : x = y
        · subst hxy
          go_wp2
          go_quiet (fail)
          go_wp2
          go_quiet (fail)
          go_wp2
          go_roundw
          case rel => exact ⟨k + 1, by omega, by omega, by go_num, Lib.hid (take_same_succ HT.out HX.out HY.out), ⟨_, rfl⟩⟩
          case measure => simp [intOf]; omega
        · have HV := Lib.hid (lcmp_at HT.out HX.out HY.out hxy)
          by_cases h1 : x < y
          · rw [if_pos h1] at HV
            go_wp2
            go_quiet (fail)
            go_wp2
            go_ret
            exact ⟨ret_int HV.out.symm, Drawn.two _ _ _⟩
          · rw [if_neg h1] at HV
            have h2 : y < x := by omega
            go_wp2
            go_quiet (fail)
            go_wp2
            go_quiet (fail)
            go_wp2
            go_ret
            exact ⟨ret_int HV.out.symm, Drawn.three _ _ _ _⟩
      · have HV := Lib.hid (lcmp_end HT.out (.inr (by omega)) (by omega) (by omega))
        clear hL hM
        have h1 : M.length < L.length := by omega
        rw [if_neg (by omega), if_pos h1] at HV
        go_wp2
        go_ret
        exact ⟨ret_int HV.out.symm, ⟨_, rfl⟩⟩
    · have HV := Lib.hid (lcmp_end HT.out (.inl (by omega)) (by omega) (by omega))
      clear hL hM
      by_cases h1 : L.length < M.length
      · rw [if_pos h1] at HV
        go_wp2
        go_ret
        exact ⟨ret_int HV.out.symm, ⟨_, rfl⟩⟩
      · rw [if_neg h1, if_neg (by omega)] at HV
        go_wp2
        go_ret
        exact ⟨ret_int HV.out.symm, ⟨_, rfl⟩⟩

end Go.Proofs.Ytkjelakdejbolaa
