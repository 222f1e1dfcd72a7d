/- Widths and sizes of sparse lists: the specification's and the program's. -/
import Derived.Test.YtlbnngolcoefdaaDoorSpec2
import Derived.Test.YtlbnngolcoefdaaDoorPk2
import Derived.Test.YtlbnngolcoefdaaDoorSpMath
import Derived.Test.YtlbnngolcoefdaaDoorDraw1
namespace Go.Proofs.YtlbnngolcoefdaaDoor
open Go.RowKit
set_option maxRecDepth 100000

theorem run_shr_i64 {P : Program} (t : TypeId) (x r : Nat) (hr : r ≤ 64) (W : World) : (binOp .shr t (.int .i64 (x : Int)) (.int .i64 (r : Int))).run P W = .ok (.int .i64 ((x / 2 ^ r : Nat) : Int)) W := by
  have h : min r 64 = r := by omega
  simp [binOp, Op.shift, IntKind.bits, h]
theorem run_shl1_i64 {P : Program} (t : TypeId) (r : Nat) (hr : r ≤ 62) (W : World) : (binOp .shl t (.int .i64 1) (.int .i64 (r : Int))).run P W = .ok (.int .i64 ((2 ^ r : Nat) : Int)) W := by
  have h : min r 64 = r := by omega
  have h2 : (2 : Nat) ^ r ≤ 2 ^ 62 := Nat.pow_le_pow_right (by omega) hr
  have h3 : ((2 ^ r : Nat) : Int) = (2 : Int) ^ r := by simp
  simp [binOp, Op.shift, IntKind.bits, h]
  rw [← h3]
  generalize 2 ^ r = p at *
  exact IntWalk.i64_in _ (by omega)
theorem run_mask_i64 {P : Program} (t : TypeId) (x r : Nat) (hx : x < 2 ^ 62) (hr : r ≤ 62) (W : World) : (binOp .and t (.int .i64 (x : Int)) (.int .i64 (((2 ^ r : Nat) : Int) - 1))).run P W = .ok (.int .i64 ((x % 2 ^ r : Nat) : Int)) W := by
  have h2 : (2 : Nat) ^ r ≤ 2 ^ 62 := Nat.pow_le_pow_right (by omega) hr
  have h1 : 0 < (2 : Nat) ^ r := Nat.two_pow_pos r
  have e : (((2 ^ r : Nat) : Int) - 1) = ((2 ^ r - 1 : Nat) : Int) := by omega
  rw [e]
  simp only [binOp, Op.intBits]
  show Sem.run P (pure (Value.int IntKind.i64 (IntKind.i64.wrap ((x % 2 ^ 64 &&& (2 ^ r - 1) % 2 ^ 64 : Nat) : Int)))) W = _
  rw [Nat.mod_eq_of_lt (show x < 2 ^ 64 by omega), Nat.mod_eq_of_lt (show 2 ^ r - 1 < 2 ^ 64 by omega), Nat.and_two_pow_sub_one_eq_mod]
  have h3 : x % 2 ^ r ≤ x := Nat.mod_le _ _
  rw [IntWalk.i64_in _ (by omega)]
  rfl

/-- The low width of n numbers below u. -/
def lowV (n u : Nat) : Nat := lowN n u Lib.bitLen

theorem lowV_le (n u : Nat) (hu : u ≤ 1000000) : lowV n u ≤ 20 := by
  unfold lowV lowN
  split
  · omega
  · have h : u / n ≤ u := Nat.div_le_self _ _
    have := Lib.bitLen_le (u / n) 20 (by omega) (by omega)
    omega

theorem quo_nat (u n : Nat) : (u : Int).tdiv (n : Int) = ((u / n : Nat) : Int) := by
  rw [Int.tdiv_eq_ediv_of_nonneg (by omega)]
  simp

set_option maxHeartbeats 400000 in
theorem implLow_any (n u : Nat) (w : World) (hu : u ≤ 1000000) (hn : n ≤ 9223372036854775807) :
    Calls Tryd.prog 57 #[.int .i64 n, .int .i64 u] w fun e w' => e = .returned (.int .i64 (lowV n u)) ∧ w = w' := by
  by_cases h : n = 0
  · subst h
    go_enter Tryd.func57, Tryd.ntmps57
    go_wp2
    go_ret
    exact ⟨rfl, rfl⟩
  · have h0i : ((n : Int) == 0) = false := by rw [beq_eq_false_iff_ne]; omega
    have hq := quo_nat u n
    have hle : u / n ≤ u := Nat.div_le_self _ _
    obtain ⟨b, hb⟩ : ∃ b, Lib.bitLen (u / n) = b := ⟨_, rfl⟩
    have hb64 : b ≤ 64 := by rw [← hb]; exact bitLen_64 _ (by omega)
    have C : ∀ W : World, Calls Tryd.prog 93 #[.int .i64 ((u / n : Nat) : Int)] W fun e w' => e = .returned (.int .i64 b) ∧ W = w' := fun W =>
      (implWid_any ((u / n : Nat) : Int) W (by omega)).mono fun e w' hh => ⟨hh.1.trans (ret_int (by unfold widV; rw [if_neg (Int.not_lt.2 (Int.natCast_nonneg _)), Int.toNat_natCast, hb])), hh.2⟩
    have hv : lowV n u = b - 1 := by unfold lowV lowN; rw [if_neg h, hb]
    rw [hv]
    have HC := Lib.hid C
    obtain ⟨q, hqq⟩ : ∃ q, u / n = q := ⟨_, rfl⟩
    rw [hqq] at hq HC hle
    have hmx : (if (0 : Int) < (b : Int) - 1 then (b : Int) - 1 else 0) = ((b - 1 : Nat) : Int) := by split <;> omega
    clear C hv hb hqq
    go_enter Tryd.func57, Tryd.ntmps57
    go_wp2_with (go_at_call 93; refine (HC.out _).mono ?_; rintro e w' ⟨rfl, rfl⟩)
    go_ret
    exact ⟨ret_int (by first | exact hmx | omega), rfl⟩

set_option maxHeartbeats 400000 in
theorem specLow_any (n u : Nat) (w : World) (hu : u ≤ 1000000) (hn : n ≤ 9223372036854775807) :
    Calls Tryd.prog 51 #[.int .i64 n, .int .i64 u] w fun e w' => e = .returned (.int .i64 (lowV n u)) ∧ w = w' := by
  by_cases h : n = 0
  · subst h
    go_enter Tryd.func51, Tryd.ntmps51
    go_wp2
    go_ret
    exact ⟨rfl, rfl⟩
  · have h0i : ((n : Int) == 0) = false := by rw [beq_eq_false_iff_ne]; omega
    have hq := quo_nat u n
    have hle : u / n ≤ u := Nat.div_le_self _ _
    obtain ⟨b, hb⟩ : ∃ b, Lib.bitLen (u / n) = b := ⟨_, rfl⟩
    have hb64 : b ≤ 64 := by rw [← hb]; exact bitLen_64 _ (by omega)
    have C : ∀ W : World, Calls Tryd.prog 89 #[.int .i64 ((u / n : Nat) : Int)] W fun e w' => e = .returned (.int .i64 b) ∧ W = w' := fun W =>
      (specWid_any ((u / n : Nat) : Int) W (by omega)).mono fun e w' hh => ⟨hh.1.trans (ret_int (by unfold widV; rw [if_neg (Int.not_lt.2 (Int.natCast_nonneg _)), Int.toNat_natCast, hb])), hh.2⟩
    have hv : lowV n u = b - 1 := by unfold lowV lowN; rw [if_neg h, hb]
    rw [hv]
    have HC := Lib.hid C
    obtain ⟨q, hqq⟩ : ∃ q, u / n = q := ⟨_, rfl⟩
    rw [hqq] at hq HC hle
    have hmx : (if (0 : Int) < (b : Int) - 1 then (b : Int) - 1 else 0) = ((b - 1 : Nat) : Int) := by split <;> omega
    clear C hv hb hqq
    go_enter Tryd.func51, Tryd.ntmps51
    go_wp2_with (go_at_call 89; refine (HC.out _).mono ?_; rintro e w' ⟨rfl, rfl⟩)
    go_ret
    exact ⟨ret_int (by first | exact hmx | omega), rfl⟩

/-- The number of bits of High. -/
def hiV (n u : Nat) : Nat := n + u / 2 ^ lowV n u + 1

set_option maxHeartbeats 400000 in
theorem highSize_any (n u : Nat) (w : World) (hu : u ≤ 1000000) (hn : n ≤ 1000000000000000000) :
    Calls Tryd.prog 66 #[.int .i64 n, .int .i64 u] w fun e w' => e = .returned (.int .i64 (hiV n u)) ∧ w = w' := by
  have hl := lowV_le n u hu
  have C : ∀ W : World, Calls Tryd.prog 57 #[.int .i64 n, .int .i64 u] W fun e w' => e = .returned (.int .i64 (lowV n u)) ∧ W = w' := fun W => implLow_any n u W hu (by omega)
  have hle : u / 2 ^ lowV n u ≤ u := Nat.div_le_self _ _
  have hdi : (u : Int) / 2 ^ lowV n u = ((u / 2 ^ lowV n u : Nat) : Int) := by simp
  unfold hiV
  obtain ⟨d, hd⟩ : ∃ d, u / 2 ^ lowV n u = d := ⟨_, rfl⟩
  rw [hd] at hdi hle ⊢
  have HC := Lib.hid C
  clear C hd
  generalize lowV n u = l at *
  go_enter Tryd.func66, Tryd.ntmps66
  go_wp2_with (go_at_call 57; refine (HC.out _).mono ?_; rintro e w' ⟨rfl, rfl⟩)
  go_ret
  exact ⟨ret_int (by omega), rfl⟩

/-- Are the sizes within the limits? -/
def spFits (n : Nat) (u : Int) : Bool := decide (0 ≤ u ∧ u ≤ 1000000) && (fitsB n (lowV n u.toNat) && decide (hiV n u.toNat ≤ 5000))

set_option maxHeartbeats 800000 in
theorem sparseFits_any (n : Nat) (u : Int) (w : World) (hn : n ≤ 1000000000000000000) :
    Calls Tryd.prog 54 #[.int .i64 n, .int .i64 u] w fun e w' => e = .returned (.bool (spFits n u)) ∧ w = w' := by
  unfold spFits
  by_cases h : 0 ≤ u ∧ u ≤ 1000000
  · rw [decide_eq_true h, Bool.true_and]
    obtain ⟨v, rfl⟩ := Int.eq_ofNat_of_zero_le h.1
    rw [Int.toNat_natCast]
    have C1 := Lib.hid fun W : World => implLow_any n v W (by omega) (by omega)
    have C2 := Lib.hid fun W : World => highSize_any n v W (by omega) (by omega)
    have C3 := Lib.hid fun W : World => packFits_any n (lowV n v) W
    have hl := lowV_le n v (by omega)
    have hh : hiV n v ≤ n + v + 1 := by unfold hiV; have := Nat.div_le_self v (2 ^ lowV n v); omega
    generalize lowV n v = l at *
    generalize hiV n v = z at *
    generalize fitsB (n : Int) (l : Int) = ok at *
    have hz : decide ((z : Int) ≤ 5000) = decide (z ≤ 5000) := by by_cases hq : z ≤ 5000 <;> simp [hq] <;> omega
    cases ok
    all_goals (
      go_enter Tryd.func54, Tryd.ntmps54
      go_wp2_with (first | (go_at_call 57; refine (C1.out _).mono ?_; rintro e w' ⟨rfl, rfl⟩) | (go_at_call 91; refine (C3.out _).mono ?_; rintro e w' ⟨rfl, rfl⟩) | (go_at_call 66; refine (C2.out _).mono ?_; rintro e w' ⟨rfl, rfl⟩))
      go_ret
      exact ⟨ret_bool (by simp), rfl⟩)
  · rw [decide_eq_false h, Bool.false_and]
    by_cases h0 : u < 0
    all_goals (
      have hx : ¬ u < 0 → 1000000 < u := by omega
      go_enter Tryd.func54, Tryd.ntmps54
      go_wp2
      go_ret
      exact ⟨rfl, rfl⟩)

end Go.Proofs.YtlbnngolcoefdaaDoor
