/- Plain mathematics: the bits of a flipped vector, and bits behind the last one. -/
import Derived.Test.YtoehgcakfblblaaDoorWvMath2
import Derived.Test.YtoehgcakfblblaaDoorFlipMath
namespace Go.Proofs.YtoehgcakfblblaaDoor

theorem bit_test (x r : Nat) : x / 2 ^ r % 2 = if x.testBit r = true then 1 else 0 := by
  rw [Nat.testBit_eq_decide_div_mod_eq]
  have := Nat.mod_lt (x / 2 ^ r) (show 0 < 2 by omega)
  by_cases h : x / 2 ^ r % 2 = 1
  · simp [h]
  · simp [h]; omega

theorem bitN_flip (n : Nat) (L : List Nat) (hl : L.length = (n + 63) / 64) (hw : ∀ x ∈ L, x < 2 ^ 64) (i : Nat) : bitN (flipW n L) i = if i < n then 1 - bitN L i else 0 := by
  unfold bitN
  by_cases hj : i / 64 < L.length
  · obtain ⟨x, hx⟩ : ∃ x, L[i / 64]? = some x := ⟨_, List.getElem?_eq_getElem hj⟩
    have hx64 := hw x (List.mem_of_getElem? hx)
    rw [List.getD_eq_getElem?_getD, List.getD_eq_getElem?_getD, flipW_get n L _ x hx, hx, Option.getD_some, Option.getD_some, bit_test, bit_test, Nat.testBit_mod_two_pow, show 18446744073709551615 - x = 2 ^ 64 - (x + 1) by omega, Nat.testBit_two_pow_sub_succ hx64]
    by_cases hi : i < n
    · rw [if_pos hi, decide_eq_true (show i % 64 < min 64 (n - 64 * (i / 64)) by omega), decide_eq_true (show i % 64 < 64 by omega)]
      cases x.testBit (i % 64) <;> rfl
    · rw [if_neg hi, decide_eq_false (show ¬ i % 64 < min 64 (n - 64 * (i / 64)) by omega)]
      simp
  · rw [List.getD_eq_getElem?_getD, List.getElem?_eq_none (by rw [flipW_len]; omega), Option.getD_none, if_neg (by omega)]
    simp

theorem cnt_flip (n : Nat) (L : List Nat) (hl : L.length = (n + 63) / 64) (hw : ∀ x ∈ L, x < 2 ^ 64) : ∀ i, i ≤ n → cnt (flipW n L) 1 i = cnt L 0 i
  | 0, _ => rfl
  | i + 1, h => by
    have e := bitN_flip n L hl hw i
    rw [if_pos (by omega)] at e
    have hb := bitN_lt L i
    rw [cnt, cnt, cnt_flip n L hl hw i (by omega), e]
    by_cases h0 : bitN L i = 0
    · rw [if_pos (by omega), if_pos (by omega)]
    · rw [if_neg (by omega), if_neg (by omega)]

end Go.Proofs.YtoehgcakfblblaaDoor
