/- SymsOk, of the program and of the specification. -/
import Derived.Test.YtkjelakdejbolaaLfMath
import Derived.Test.YtkjelakdejbolaaNewI
namespace Go.Proofs.Ytkjelakdejbolaa
open Go.RowKit
set_option maxRecDepth 100000

/-- The first k numbers are symbols. -/
def syms (L : List Int) (k : Nat) : Prop := ∀ j < k, ∀ x, L[j]? = some x → 0 ≤ x ∧ x ≤ 256
theorem syms_succ {L : List Int} {k : Nat} {x : Int} (h : syms L k) (hx : L[k]? = some x) (h0 : 0 ≤ x) (h1 : x ≤ 256) : syms L (k + 1) := fun j hj y hy => by
  by_cases e : j = k
  · subst e
    rw [hx] at hy
    cases hy
    exact ⟨h0, h1⟩
  · exact h j (by omega) y hy

set_option maxHeartbeats 800000 in
theorem implSymsOk_in (A : Option Addr) (n c : Nat) (L : List Int) (w : World) (hL : Lies w I A L) (Hn : Hid (L.length = n)) (hn : n ≤ 301) :
    Calls Try.prog 30 #[.slice A n c] w fun e w' => e = .returned (.bool (symOk L)) ∧ w' = w := by
  have hd : decide ((301 : Int) < (n : Int)) = false := by simp; omega
  go_enter Try.func30, Try.ntmps30
  go_wp2
  go_loop [10] (fun i => ∃ k : Nat, k ≤ n ∧ i = .int .i64 k ∧ Hid (syms L k)) (fun i => n - (intOf i).toNat)
  case atStart => exact ⟨0, Nat.zero_le _, rfl, Lib.hid fun j hj => by omega⟩
  case round =>
    obtain ⟨k, hk, rfl, HS⟩ := hrel
    by_cases hlt : k < n
    · obtain ⟨b, o, x, hA, hbl, hx, hc⟩ := hL.at_ (i := k) (by rw [Hn.out]; exact hlt)
      subst hA
      have HX := Lib.hid hx
      clear hx
      by_cases hneg : x < 0
      · have HE := Lib.hid (symOk_no HX.out (.inl hneg))
        have h1 : decide (x < 0) = true := by simpa using hneg
        go_wp2
        go_ret
        exact ⟨ret_bool HE.out.symm, rfl⟩
      · have h1 : decide (x < 0) = false := by simp; omega
        by_cases hge : 256 < x
        · have HE := Lib.hid (symOk_no HX.out (.inr hge))
          have h2 : decide (256 < x) = true := by simpa using hge
          go_wp2
          go_ret
          exact ⟨ret_bool HE.out.symm, rfl⟩
        · have h2 : decide (256 < x) = false := by simp; omega
          have HS2 := Lib.hid (syms_succ HS.out HX.out (by omega) (by omega))
          go_wp2
          go_round
          case rel => exact ⟨k + 1, by omega, by go_num, HS2⟩
          case measure => simp [intOf]; omega
    · obtain rfl : k = n := by omega
      have HE : Hid (symOk L = true) := Lib.hid (symOk_all (by rw [Hn.out]; exact hn) fun j hj => HS.out j (by rw [Hn.out] at hj; exact hj))
      go_wp2
      go_ret
      exact ⟨ret_bool HE.out.symm, rfl⟩

theorem implSymsOk_any (A : Option Addr) (c : Nat) (L : List Int) (w : World) (hL : Lies w I A L) :
    Calls Try.prog 30 #[.slice A L.length c] w fun e w' => e = .returned (.bool (symOk L)) ∧ w' = w := by
  by_cases h : L.length ≤ 301
  · exact implSymsOk_in A L.length c L w hL (Lib.hid rfl) h
  · have HE := Lib.hid (symOk_long (L := L) (by omega))
    generalize L.length = n at *
    clear hL
    have hd : decide ((301 : Int) < (n : Int)) = true := by simp; omega
    go_enter Try.func30, Try.ntmps30
    go_wp2
    go_ret
    exact ⟨ret_bool HE.out.symm, rfl⟩

set_option maxHeartbeats 800000 in
theorem specSymsOk_in (A : Option Addr) (n c : Nat) (L : List Int) (w : World) (hL : Lies w I A L) (Hn : Hid (L.length = n)) (hn : n ≤ 301) :
    Calls Try.prog 27 #[.slice A n c] w fun e w' => e = .returned (.bool (symOk L)) ∧ w' = w := by
  have hd : decide ((301 : Int) < (n : Int)) = false := by simp; omega
  go_enter Try.func27, Try.ntmps27
  go_wp2
  go_loop [3] (fun i => ∃ k : Nat, k ≤ n ∧ i = .int .i64 k ∧ Hid (syms L k)) (fun i => n - (intOf i).toNat)
  case atStart => exact ⟨0, Nat.zero_le _, rfl, Lib.hid fun j hj => by omega⟩
  case round =>
    obtain ⟨k, hk, rfl, HS⟩ := hrel
    by_cases hlt : k < n
    · obtain ⟨b, o, x, hA, hbl, hx, hc⟩ := hL.at_ (i := k) (by rw [Hn.out]; exact hlt)
      subst hA
      have HX := Lib.hid hx
      clear hx
      by_cases hneg : x < 0
      · have HE := Lib.hid (symOk_no HX.out (.inl hneg))
        have h1 : decide (x < 0) = true := by simpa using hneg
        go_wp2
        go_ret
        exact ⟨ret_bool HE.out.symm, rfl⟩
      · have h1 : decide (x < 0) = false := by simp; omega
        by_cases hge : 256 < x
        · have HE := Lib.hid (symOk_no HX.out (.inr hge))
          have h2 : decide (256 < x) = true := by simpa using hge
          go_wp2
          go_ret
          exact ⟨ret_bool HE.out.symm, rfl⟩
        · have h2 : decide (256 < x) = false := by simp; omega
          have HS2 := Lib.hid (syms_succ HS.out HX.out (by omega) (by omega))
          go_wp2
          go_round
          case rel => exact ⟨k + 1, by omega, by go_num, HS2⟩
          case measure => simp [intOf]; omega
    · obtain rfl : k = n := by omega
      have HE : Hid (symOk L = true) := Lib.hid (symOk_all (by rw [Hn.out]; exact hn) fun j hj => HS.out j (by rw [Hn.out] at hj; exact hj))
      go_wp2
      go_ret
      exact ⟨ret_bool HE.out.symm, rfl⟩

theorem specSymsOk_any (A : Option Addr) (c : Nat) (L : List Int) (w : World) (hL : Lies w I A L) :
    Calls Try.prog 27 #[.slice A L.length c] w fun e w' => e = .returned (.bool (symOk L)) ∧ w' = w := by
  by_cases h : L.length ≤ 301
  · exact specSymsOk_in A L.length c L w hL (Lib.hid rfl) h
  · have HE := Lib.hid (symOk_long (L := L) (by omega))
    generalize L.length = n at *
    clear hL
    have hd : decide ((301 : Int) < (n : Int)) = true := by simp; omega
    go_enter Try.func27, Try.ntmps27
    go_wp2
    go_ret
    exact ⟨ret_bool HE.out.symm, rfl⟩

end Go.Proofs.Ytkjelakdejbolaa
