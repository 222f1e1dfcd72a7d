/- Counting bits. -/
import Derived.Test.YticndfdicalmcaaBitMath2
import Derived.Test.YticndfdicalmcaaPopMath
namespace Go.Proofs.Yticndfdicalmcaa

/-- How many of the first k bits are b. -/
def cnt (L : List Nat) (b : Int) : Nat → Nat
  | 0 => 0
  | k + 1 => cnt L b k + if (bitN L k : Int) = b then 1 else 0
theorem cnt_yes (L : List Nat) (b : Int) (k : Nat) (h : (bitN L k : Int) = b) : cnt L b (k + 1) = cnt L b k + 1 := by rw [cnt, if_pos h]
theorem cnt_no (L : List Nat) (b : Int) (k : Nat) (h : ¬ (bitN L k : Int) = b) : cnt L b (k + 1) = cnt L b k := by rw [cnt, if_neg h, Nat.add_zero]
theorem cnt_le (L : List Nat) (b : Int) (k : Nat) : cnt L b k ≤ k := by
  induction k with
  | zero => exact Nat.le_refl _
  | succ k ih =>
    rw [cnt]
    split <;> omega
theorem cnt_sum (L : List Nat) (k : Nat) : cnt L 0 k + cnt L 1 k = k := by
  induction k with
  | zero => rfl
  | succ k ih =>
    have h := bitN_lt L k
    rw [cnt, cnt]
    by_cases h0 : bitN L k = 0
    · rw [if_pos (by omega), if_neg (by omega)]
      omega
    · rw [if_neg (by omega), if_pos (by omega)]
      omega

theorem popN_succ (r x : Nat) : popN (r + 1) x = popN r x + x / 2 ^ r % 2 := by
  rw [popN_add r 1 x]
  simp [popN]

/-- How many bits 1 the first q words have. -/
def popL (L : List Nat) : Nat → Nat
  | 0 => 0
  | q + 1 => popL L q + popN 64 (L[q]?.getD 0)

theorem cnt_word (L : List Nat) (q : Nat) : ∀ r, r ≤ 64 → cnt L 1 (64 * q + r) = cnt L 1 (64 * q) + popN r (L[q]?.getD 0)
  | 0, _ => rfl
  | r + 1, h => by
    rw [← Nat.add_assoc, popN_succ, ← Nat.add_assoc, ← cnt_word L q r (by omega)]
    have e : bitN L (64 * q + r) = L[q]?.getD 0 / 2 ^ r % 2 := by
      unfold bitN
      rw [show (64 * q + r) / 64 = q by omega, show (64 * q + r) % 64 = r by omega]
      try simp
    have h2 := bitN_lt L (64 * q + r)
    rw [← e, cnt]
    by_cases h1 : bitN L (64 * q + r) = 1
    · rw [if_pos (by omega), h1]
    · rw [if_neg (by omega)]
      omega
theorem cnt_pop (L : List Nat) (q : Nat) : cnt L 1 (64 * q) = popL L q := by
  induction q with
  | zero => rfl
  | succ q ih => rw [Nat.mul_succ, cnt_word L q 64 (Nat.le_refl _), ih, popL]
theorem popL_le (L : List Nat) (q : Nat) : popL L q ≤ 64 * q := by
  rw [← cnt_pop]
  exact cnt_le _ _ _

/-- What Rank is to return. -/
def rankV (N : Int) (L : List Nat) (b i : Int) : Int := if okB N L = true ∧ (b = 0 ∨ b = 1) ∧ 0 ≤ i ∧ i ≤ N then (cnt L b i.toNat : Int) else -1

end Go.Proofs.Yticndfdicalmcaa
