/- Plain mathematics of FnVarBack, and the front of a new row. -/
import Derived.Test.YtkjelakdejbolaaVarRd2
import Derived.Test.YtkjelakdejbolaaWid2
namespace Go.Proofs.Ytkjelakdejbolaa
open Go.RowKit

/-- The bytes of a number are read as the number, whatever follows. -/
theorem rd_back : ∀ (f k m x : Nat) (rest : List Nat), x < 128 * 128 ^ f → (k = 0 ∨ x ≠ 0) → m + x * 128 ^ k ≤ 4294967295 → rdF (f + 1) k m (varF f x ++ rest) = some (m + x * 128 ^ k, k + (varF f x).length)
  | 0, k, m, x, rest, hx, h0, hb => by
    have hx : x < 128 := by simpa using hx
    rw [varF, List.singleton_append, rdF, if_neg (by omega), Nat.mod_eq_of_lt hx, if_neg (by omega)]
    rfl
  | f + 1, k, m, x, rest, hx, h0, hb => by
    by_cases hs : x < 128
    · rw [varF_small (f + 1) x hs, List.singleton_append, rdF, if_neg (by omega), Nat.mod_eq_of_lt hs, if_neg (by omega)]
      rfl
    · rw [varF, if_neg hs, List.cons_append, rdF, if_pos (by omega), show (x % 128 + 128) % 128 = x % 128 by omega]
      have e : m + x % 128 * 128 ^ k + x / 128 * 128 ^ (k + 1) = m + x * 128 ^ k := by
        have h1 : x = x % 128 + 128 * (x / 128) := by omega
        conv => rhs; rw [h1]
        rw [Nat.add_mul, Nat.pow_succ, Nat.add_assoc, Nat.mul_comm 128 (x / 128), Nat.mul_assoc (x / 128) 128, Nat.mul_comm 128 (128 ^ k)]
      rw [rd_back f (k + 1) (m + x % 128 * 128 ^ k) (x / 128) rest (by rw [Nat.pow_succ] at hx; omega) (.inr (by omega)) (by rw [e]; exact hb), e, List.length_cons, Nat.add_assoc, Nat.add_comm 1]
theorem varF_mono : ∀ (f a b : Nat), a ≤ b → (varF f a).length ≤ (varF f b).length
  | 0, a, b, _ => by simp [varF]
  | f + 1, a, b, h => by
    rw [varF, varF]
    split
    · split
      · simp
      · simp
    · rw [if_neg (by omega)]
      have := varF_mono f (a / 128) (b / 128) (Nat.div_le_div_right h)
      simp only [List.length_cons]
      omega
theorem bitLen_pos (x : Nat) (h0 : x ≠ 0) (h : x < 2 ^ 64) : 1 ≤ Lib.bitLen x := by
  have := Lib.bitLen_half x h0 h
  omega
theorem varF_width : ∀ (f n : Nat), n < 128 * 128 ^ f → n < 2 ^ 64 → (varF f n).length = max 1 ((Lib.bitLen n + 6) / 7)
  | 0, n, h, h64 => by
    have := Lib.bitLen_le n 7 (by omega) (by simpa using h)
    simp only [varF, List.length_singleton]
    omega
  | f + 1, n, h, h64 => by
    by_cases hs : n < 128
    · have := Lib.bitLen_le n 7 (by omega) (by omega)
      rw [varF_small _ _ hs]
      simp only [List.length_singleton]
      omega
    · have h1 := Lib.bitLen_shift 7 n (by omega) h64
      have h2 := bitLen_pos (n / 128) (by omega) (by omega)
      have ih := varF_width f (n / 128) (by rw [Nat.pow_succ] at h; omega) (by omega)
      rw [varF, if_neg hs, List.length_cons, ih]
      have e : n / 2 ^ 7 = n / 128 := rfl
      rw [e] at h1
      omega

theorem own_front {w : World} {S : Nat} {e : TypeId} {xs : List Value} {T r : Nat} (h : Box w S e xs.toArray) (hl : xs.length = T) (hr : r ≤ T) (hT : T ≤ 5000) : w.ownsRow S e 1 (.slice (some ⟨S, 0, none⟩) r T) r (xs.take r) :=
  ⟨by rw [List.length_take, hl, Nat.mul_one, Nat.min_eq_left hr], .inr ⟨S, T, _, rfl, Nat.le_refl _, h, hr, by unfold maxLen; omega, by simp [hl], by rw [Nat.mul_one]⟩⟩

end Go.Proofs.Ytkjelakdejbolaa
