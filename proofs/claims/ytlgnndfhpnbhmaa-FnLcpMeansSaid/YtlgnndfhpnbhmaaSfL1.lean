/- Common beginnings. -/
import Derived.Test.YtlgnndfhpnbhmaaSfI4
import Derived.Test.YtlgnndfhpnbhmaaSfS2
namespace Go.Proofs.Ytlgnndfhpnbhmaa
open Go.RowKit
set_option maxRecDepth 100000

/-- How many bytes two lists have in common at their beginning. -/
def cpl : List Nat → List Nat → Nat
  | a :: us, b :: vs => if a = b then cpl us vs + 1 else 0
  | _, _ => 0
theorem cpl_nil_left (M : List Nat) : cpl [] M = 0 := by cases M <;> rfl
theorem cpl_nil_right (L : List Nat) : cpl L [] = 0 := by cases L <;> rfl
theorem cpl_cons (a b : Nat) (us vs : List Nat) : cpl (a :: us) (b :: vs) = if a = b then cpl us vs + 1 else 0 := rfl
theorem cpl_skip : ∀ (k : Nat) (L M : List Nat), L.take k = M.take k → k ≤ L.length → k ≤ M.length → cpl L M = k + cpl (L.drop k) (M.drop k)
  | 0, L, M, _, _, _ => by simp
  | k + 1, [], M, _, h, _ => by simp at h
  | k + 1, _ :: _, [], _, _, h => by simp at h
  | k + 1, a :: us, b :: vs, h, h1, h2 => by
    simp only [List.take_succ_cons, List.cons.injEq] at h
    obtain ⟨rfl, h⟩ := h
    rw [cpl_cons, if_pos rfl, cpl_skip k us vs h (by simpa using h1) (by simpa using h2)]
    simp only [List.drop_succ_cons]
    omega
theorem cpl_stop {k : Nat} {L M : List Nat} (h : L.take k = M.take k) (h1 : k ≤ L.length) (h2 : k ≤ M.length) (hs : k = L.length ∨ k = M.length ∨ ∃ x y, L[k]? = some x ∧ M[k]? = some y ∧ x ≠ y) : cpl L M = k := by
  rw [cpl_skip k L M h h1 h2]
  rcases hs with rfl | rfl | ⟨x, y, hx, hy, hne⟩
  · rw [List.drop_of_length_le (Nat.le_refl _), cpl_nil_left]; rfl
  · rw [List.drop_of_length_le (l := M) (Nat.le_refl _), cpl_nil_right]; rfl
  · obtain ⟨hk, rfl⟩ := List.getElem?_eq_some_iff.1 hx
    obtain ⟨hk', rfl⟩ := List.getElem?_eq_some_iff.1 hy
    rw [List.drop_eq_getElem_cons hk, List.drop_eq_getElem_cons hk', cpl_cons, if_neg hne]
    rfl
theorem cpl_le : ∀ L M : List Nat, cpl L M ≤ L.length ∧ cpl L M ≤ M.length
  | [], M => by rw [cpl_nil_left]; simp
  | _ :: _, [] => by rw [cpl_nil_right]; simp
  | a :: us, b :: vs => by
    have := cpl_le us vs
    rw [cpl_cons]
    split <;> simp <;> omega

set_option maxHeartbeats 800000 in
theorem implCommon (A B : Option Addr) (c d : Nat) (L M : List Nat) (w : World) (hL : Lies w B8 A L) (hM : Lies w B8 B M) (hn : L.length ≤ 17592186044416) :
    Calls Try.prog 49 #[.slice A L.length c, .slice B M.length d] w fun e w' => e = .returned (.int .i64 (cpl L M : Nat)) ∧ Drawn w w' := by
  go_enter Try.func49, Try.ntmps49
  go_wp2
  go_loopw [5] (fun i wr => ∃ k : Nat, k ≤ L.length ∧ k ≤ M.length ∧ i = .int .i64 k ∧ Hid (L.take k = M.take k) ∧ Drawn w wr) (fun i _ => L.length - (intOf i).toNat)
  case atStart => exact ⟨0, Nat.zero_le _, Nat.zero_le _, rfl, Lib.hid (by simp), Drawn.refl _⟩
  case round =>
    obtain ⟨k, hk, hk2, rfl, HT, m, rfl⟩ := hrel
    by_cases hlt : k < L.length
    · have d1 : decide ((k : Int) < (L.length : Int)) = true := by simp; omega
      have d1b : decide (k < L.length) = true := by simpa using hlt
      by_cases hlt2 : k < M.length
      · have d2 : decide ((k : Int) < (M.length : Int)) = true := by simp; omega
        have d2b : decide (k < M.length) = true := by simpa using hlt2
        obtain ⟨b, o, x, rfl, hbl, hx, hc⟩ := hL.at_ (i := k) hlt
        obtain ⟨b', o', y, rfl, hbl', hy, hc'⟩ := hM.at_ (i := k) hlt2
        have HX := Lib.hid hx
        have HY := Lib.hid hy
        clear hx hy hL hM
        by_cases hxy : x = y
        · subst hxy
          go_wp2
          go_quiet (fail)
          go_wp2
          go_roundw
          case rel => exact ⟨k + 1, by omega, by omega, by go_num, Lib.hid (take_same_succ HT.out HX.out HY.out), ⟨_, rfl⟩⟩
          case measure => simp [intOf]; omega
        · have hne : (x == y) = false := by simpa using hxy
          have hne2 : ((x : Int) == (y : Int)) = false := by rw [beq_eq_false_iff_ne]; omega
          have hne3 : ¬ ((x : Int) = (y : Int)) := by omega
          have HV := Lib.hid (cpl_stop HT.out hk hk2 (.inr (.inr ⟨x, y, HX.out, HY.out, hxy⟩)))
          go_wp2
          go_quiet (fail)
          go_wp2
          go_ret
          exact ⟨ret_int (by rw [HV.out]), Drawn.two _ _ _⟩
      · have d2 : decide ((k : Int) < (M.length : Int)) = false := by simp; omega
        have d2b : decide (k < M.length) = false := by simpa using hlt2
        have HV := Lib.hid (cpl_stop HT.out hk hk2 (.inr (.inl (by omega))))
        clear hL hM
        go_wp2
        go_quiet (fail)
        go_wp2
        go_ret
        exact ⟨ret_int (by rw [HV.out]), Drawn.two _ _ _⟩
    · have d1 : decide ((k : Int) < (L.length : Int)) = false := by simp; omega
      have d1b : decide (k < L.length) = false := by simpa using hlt
      have HV := Lib.hid (cpl_stop HT.out hk hk2 (.inl (by omega)))
      clear hL hM
      go_wp2
      go_quiet (fail)
      go_wp2
      go_ret
      exact ⟨ret_int (by rw [HV.out]), Drawn.two _ _ _⟩

set_option maxHeartbeats 800000 in
theorem specCommon (A B : Option Addr) (c d : Nat) (L M : List Nat) (w : World) (hL : Lies w B8 A L) (hM : Lies w B8 B M) (hn : L.length ≤ 17592186044416) :
    Calls Try.prog 57 #[.slice A L.length c, .slice B M.length d] w fun e w' => e = .returned (.int .i64 (cpl L M : Nat)) ∧ Drawn w w' := by
  go_enter Try.func57, Try.ntmps57
  go_wp2
  go_loopw [5] (fun i wr => ∃ k : Nat, k ≤ L.length ∧ k ≤ M.length ∧ i = .int .i64 k ∧ Hid (L.take k = M.take k) ∧ Drawn w wr) (fun i _ => L.length - (intOf i).toNat)
  case atStart => exact ⟨0, Nat.zero_le _, Nat.zero_le _, rfl, Lib.hid (by simp), Drawn.refl _⟩
  case round =>
    obtain ⟨k, hk, hk2, rfl, HT, m, rfl⟩ := hrel
    by_cases hlt : k < L.length
    · have d1 : decide ((k : Int) < (L.length : Int)) = true := by simp; omega
      have d1b : decide (k < L.length) = true := by simpa using hlt
      by_cases hlt2 : k < M.length
      · have d2 : decide ((k : Int) < (M.length : Int)) = true := by simp; omega
        have d2b : decide (k < M.length) = true := by simpa using hlt2
        obtain ⟨b, o, x, rfl, hbl, hx, hc⟩ := hL.at_ (i := k) hlt
        obtain ⟨b', o', y, rfl, hbl', hy, hc'⟩ := hM.at_ (i := k) hlt2
        have HX := Lib.hid hx
        have HY := Lib.hid hy
        clear hx hy hL hM
        by_cases hxy : x = y
        · subst hxy
          go_wp2
          go_quiet (fail)
          go_wp2
          go_roundw
          case rel => exact ⟨k + 1, by omega, by omega, by go_num, Lib.hid (take_same_succ HT.out HX.out HY.out), ⟨_, rfl⟩⟩
          case measure => simp [intOf]; omega
        · have hne : (x == y) = false := by simpa using hxy
          have hne2 : ((x : Int) == (y : Int)) = false := by rw [beq_eq_false_iff_ne]; omega
          have hne3 : ¬ ((x : Int) = (y : Int)) := by omega
          have HV := Lib.hid (cpl_stop HT.out hk hk2 (.inr (.inr ⟨x, y, HX.out, HY.out, hxy⟩)))
          go_wp2
          go_quiet (fail)
          go_wp2
          go_ret
          exact ⟨ret_int (by rw [HV.out]), Drawn.two _ _ _⟩
      · have d2 : decide ((k : Int) < (M.length : Int)) = false := by simp; omega
        have d2b : decide (k < M.length) = false := by simpa using hlt2
        have HV := Lib.hid (cpl_stop HT.out hk hk2 (.inr (.inl (by omega))))
        clear hL hM
        go_wp2
        go_quiet (fail)
        go_wp2
        go_ret
        exact ⟨ret_int (by rw [HV.out]), Drawn.two _ _ _⟩
    · have d1 : decide ((k : Int) < (L.length : Int)) = false := by simp; omega
      have d1b : decide (k < L.length) = false := by simpa using hlt
      have HV := Lib.hid (cpl_stop HT.out hk hk2 (.inl (by omega)))
      clear hL hM
      go_wp2
      go_quiet (fail)
      go_wp2
      go_ret
      exact ⟨ret_int (by rw [HV.out]), Drawn.two _ _ _⟩

end Go.Proofs.Ytlgnndfhpnbhmaa
