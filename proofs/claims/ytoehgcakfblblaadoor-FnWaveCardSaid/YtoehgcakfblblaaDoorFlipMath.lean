/- Plain mathematics of the flipped bit vector. -/
import Derived.Test.YtoehgcakfblblaaDoorWvMath2
namespace Go.Proofs.YtoehgcakfblblaaDoor

def flipped (B : List Int) : List Int := B.map fun b => 1 - b
/-- The flipped words of a bit vector of n bits. -/
def flipW (n : Nat) (L : List Nat) : List Nat := (List.range L.length).map fun j => (18446744073709551615 - L.getD j 0) % 2 ^ (min 64 (n - 64 * j))

theorem flipped_bits {B : List Int} (h : IsBits B) : IsBits (flipped B) := by
  intro b hb
  simp only [flipped, List.mem_map] at hb
  obtain ⟨a, ha, rfl⟩ := hb
  have := h a ha
  omega
theorem val_flipped (xs : List Int) (h : IsBits xs) : val (flipped xs) + val xs + 1 = 2 ^ xs.length := by
  induction xs with
  | nil => simp [flipped, val]
  | cons b bs ih =>
    have h1 := ih fun b hb => h b (List.mem_cons_of_mem _ hb)
    have h2 := h b (List.mem_cons_self ..)
    simp only [flipped, List.map_cons, val, List.length_cons, Nat.pow_succ]
    rw [show List.map (fun b => 1 - b) bs = flipped bs from rfl]
    rcases h2 with rfl | rfl <;> simp <;> omega
theorem mod_flip (x m : Nat) (hx : x < 2 ^ 64) (hm : m ≤ 64) : (18446744073709551615 - x) % 2 ^ m = 2 ^ m - 1 - x % 2 ^ m := by
  obtain ⟨k, hk⟩ : ∃ k, 2 ^ 64 = 2 ^ m * k := ⟨2 ^ (64 - m), by rw [← Nat.pow_add]; congr 1; omega⟩
  have hp : 0 < 2 ^ m := Nat.two_pow_pos m
  have hq : x / 2 ^ m < k := by rw [Nat.div_lt_iff_lt_mul hp, Nat.mul_comm, ← hk]; exact hx
  have hd := Nat.div_add_mod x (2 ^ m)
  have hr := Nat.mod_lt x hp
  have e : 18446744073709551615 - x = (2 ^ m - 1 - x % 2 ^ m) + 2 ^ m * (k - 1 - x / 2 ^ m) := by
    have h1 : 2 ^ m * (k - 1 - x / 2 ^ m) = 2 ^ m * k - 2 ^ m - 2 ^ m * (x / 2 ^ m) := by
      rw [Nat.mul_sub, Nat.mul_sub, Nat.mul_one]
    have h2 : 2 ^ m * (x / 2 ^ m) + 2 ^ m ≤ 2 ^ m * k := by
      rw [← Nat.mul_succ]
      exact Nat.mul_le_mul_left _ hq
    rw [h1, ← hk]
    rw [← hk] at h2
    omega
  rw [e, Nat.add_mul_mod_self_left, Nat.mod_eq_of_lt (by omega)]

theorem flipW_words (n : Nat) (L : List Nat) (hl : L.length = (n + 63) / 64) (hw : ∀ x ∈ L, x < 2 ^ 64) : flipW n L = wordsOf (flipped (bitsOf n L)) := by
  have hfl : (flipped (bitsOf n L)).length = n := by simp [flipped, bitsOf_len]
  apply List.ext_getElem?
  intro j
  by_cases hj : j < L.length
  · rw [wordsOf_get _ _ (by rw [hfl]; omega)]
    have hx : L.getD j 0 < 2 ^ 64 := by
      rw [List.getD_eq_getElem?_getD, List.getElem?_eq_getElem hj, Option.getD_some]
      exact hw _ (List.getElem_mem hj)
    have hb := wordsOf_bitsOf_get n L j (by omega)
    rw [wordsOf_get _ _ (by rw [bitsOf_len]; omega)] at hb
    have hb' := Option.some.inj hb
    have e : ((flipped (bitsOf n L)).drop (64 * j)).take 64 = flipped (((bitsOf n L).drop (64 * j)).take 64) := by simp [flipped, List.map_drop, List.map_take]
    have hv := val_flipped (((bitsOf n L).drop (64 * j)).take 64) (((bitsOf_bits n L).drop _).take _)
    have hlen : (((bitsOf n L).drop (64 * j)).take 64).length = min 64 (n - 64 * j) := by rw [List.length_take, List.length_drop, bitsOf_len]
    rw [hb', hlen] at hv
    rw [e]
    simp only [flipW, List.getElem?_map, List.getElem?_range hj, Option.map_some]
    congr 1
    rw [mod_flip _ _ hx (Nat.min_le_left _ _)]
    omega
  · rw [List.getElem?_eq_none (by simp [flipW]; omega), List.getElem?_eq_none (by rw [wordsOf_len, hfl]; omega)]

theorem flipW_len (n : Nat) (L : List Nat) : (flipW n L).length = L.length := by simp [flipW]
theorem flipW_get (n : Nat) (L : List Nat) (j x : Nat) (h : L[j]? = some x) : (flipW n L)[j]? = some ((18446744073709551615 - x) % 2 ^ (min 64 (n - 64 * j))) := by
  have hj := (List.getElem?_eq_some_iff.1 h).1
  simp only [flipW, List.getElem?_map, List.getElem?_range hj, Option.map_some]
  rw [List.getD_eq_getElem?_getD, h, Option.getD_some]

end Go.Proofs.YtoehgcakfblblaaDoor
