/- Plain mathematics of bit vectors: the bits of a list of words, the words of a list of bits. Nothing of the program and nothing of the model stands here. -/
import Init
namespace Go.Proofs.Ytoehgcakfblblaa

/-- Bit i of a list of words. -/
def bitN (L : List Nat) (i : Nat) : Nat := L.getD (i / 64) 0 / 2 ^ (i % 64) % 2
/-- The first n bits of a list of words. -/
def bitsOf (n : Nat) (L : List Nat) : List Int := (List.range n).map fun i => (bitN L i : Int)
/-- The number whose binary digits, the least first, are a list. -/
def val : List Int → Nat
  | [] => 0
  | b :: bs => b.toNat + 2 * val bs
/-- The words of a list of bits. -/
def wordsOf (B : List Int) : List Nat := (List.range ((B.length + 63) / 64)).map fun j => val ((B.drop (64 * j)).take 64)
def IsBits (B : List Int) : Prop := ∀ b ∈ B, b = 0 ∨ b = 1

theorem bitN_lt (L : List Nat) (i : Nat) : bitN L i < 2 := Nat.mod_lt _ (by omega)
theorem bitsOf_len (n : Nat) (L : List Nat) : (bitsOf n L).length = n := by simp [bitsOf]
theorem bitsOf_get (n : Nat) (L : List Nat) (i : Nat) (h : i < n) : (bitsOf n L)[i]? = some (bitN L i : Int) := by simp [bitsOf, h]
theorem bitsOf_take (n k : Nat) (L : List Nat) (h : k ≤ n) : (bitsOf n L).take k = bitsOf k L := by
  apply List.ext_getElem?
  intro i
  rw [List.getElem?_take]
  by_cases hi : i < k
  · rw [if_pos hi, bitsOf_get _ _ _ (by omega), bitsOf_get _ _ _ hi]
  · rw [if_neg hi]
    simp [bitsOf, hi]
theorem bitsOf_succ (n : Nat) (L : List Nat) : bitsOf (n + 1) L = bitsOf n L ++ [(bitN L n : Int)] := by simp [bitsOf, List.range_succ]
theorem bitsOf_bits (n : Nat) (L : List Nat) : IsBits (bitsOf n L) := by
  intro b hb
  simp only [bitsOf, List.mem_map] at hb
  obtain ⟨i, _, rfl⟩ := hb
  have := bitN_lt L i
  omega

theorem val_append (xs ys : List Int) : val (xs ++ ys) = val xs + 2 ^ xs.length * val ys := by
  induction xs with
  | nil => simp [val]
  | cons b bs ih =>
    simp only [List.cons_append, val, ih, List.length_cons, Nat.pow_succ]
    rw [Nat.mul_add, Nat.mul_comm (2 ^ bs.length) 2, Nat.mul_assoc, Nat.add_assoc]
theorem val_lt (xs : List Int) (h : IsBits xs) : val xs < 2 ^ xs.length := by
  induction xs with
  | nil => simp [val]
  | cons b bs ih =>
    have h1 := ih fun b hb => h b (List.mem_cons_of_mem _ hb)
    have h2 := h b (List.mem_cons_self ..)
    simp only [val, List.length_cons, Nat.pow_succ]
    omega
theorem val_digits (x m : Nat) : val ((List.range m).map fun i => ((x / 2 ^ i % 2 : Nat) : Int)) = x % 2 ^ m := by
  induction m with
  | zero => simp [val, Nat.mod_one]
  | succ m ih =>
    rw [List.range_succ, List.map_append, val_append, ih]
    simp only [List.map_cons, List.map_nil, val, List.length_map, List.length_range, Int.toNat_natCast, Nat.mul_zero, Nat.add_zero]
    rw [Nat.pow_succ, Nat.mod_mul]

theorem wordsOf_len (B : List Int) : (wordsOf B).length = (B.length + 63) / 64 := by simp [wordsOf]
theorem wordsOf_get (B : List Int) (j : Nat) (h : j < (B.length + 63) / 64) : (wordsOf B)[j]? = some (val ((B.drop (64 * j)).take 64)) := by simp [wordsOf, h]
theorem wordsOf_nil : wordsOf [] = [] := by simp [wordsOf]

theorem IsBits.sub {B C : List Int} (h : IsBits B) (hs : ∀ b ∈ C, b ∈ B) : IsBits C := fun b hb => h b (hs b hb)
theorem IsBits.take {B : List Int} (h : IsBits B) (n : Nat) : IsBits (B.take n) := h.sub fun _ hb => List.mem_of_mem_take hb
theorem IsBits.drop {B : List Int} (h : IsBits B) (n : Nat) : IsBits (B.drop n) := h.sub fun _ hb => List.mem_of_mem_drop hb

theorem wordsOf_lt (B : List Int) (h : IsBits B) : ∀ x ∈ wordsOf B, x < 2 ^ 64 := by
  intro x hx
  simp only [wordsOf, List.mem_map] at hx
  obtain ⟨j, _, rfl⟩ := hx
  have h1 := val_lt _ ((h.drop (64 * j)).take 64)
  have h2 : ((B.drop (64 * j)).take 64).length ≤ 64 := List.length_take_le _ _
  exact Nat.lt_of_lt_of_le h1 (Nat.pow_le_pow_right (by omega) h2)

/-- The words once a bit more is there: a new word where one begins. -/
theorem wordsOf_snoc0 (B : List Int) (b : Int) (h : B.length % 64 = 0) : wordsOf (B ++ [b]) = wordsOf B ++ [b.toNat] := by
  have e : (B.length + 1 + 63) / 64 = (B.length + 63) / 64 + 1 := by omega
  have e2 : (B.length + 63) / 64 = B.length / 64 := by omega
  unfold wordsOf
  rw [List.length_append, List.length_singleton, e, List.range_succ, List.map_append]
  congr 1
  · apply List.map_congr_left
    intro j hj
    rw [List.mem_range, e2] at hj
    rw [List.drop_append_of_le_length (by omega), List.take_append_of_le_length (by rw [List.length_drop]; omega)]
  · simp only [List.map_cons, List.map_nil]
    rw [e2, show 64 * (B.length / 64) = B.length by omega, List.drop_left]
    simp [val]
/-- .. and the last word's next digit where none begins. -/
theorem wordsOf_snoc (B : List Int) (b : Int) (h : B.length % 64 ≠ 0) :
    wordsOf (B ++ [b]) = (wordsOf B).set (B.length / 64) ((wordsOf B).getD (B.length / 64) 0 + 2 ^ (B.length % 64) * b.toNat) := by
  have e : (B.length + 1 + 63) / 64 = (B.length + 63) / 64 := by omega
  have hl : B.length / 64 < (B.length + 63) / 64 := by omega
  apply List.ext_getElem?
  intro j
  rw [List.getElem?_set]
  by_cases hj : j < (B.length + 63) / 64
  · rw [wordsOf_get _ _ (by rw [List.length_append, List.length_singleton, e]; exact hj)]
    by_cases hjl : B.length / 64 = j
    · subst hjl
      rw [if_pos rfl, if_pos (by rw [wordsOf_len]; exact hl)]
      have hd : ((B.drop (64 * (B.length / 64))).length) = B.length % 64 := by rw [List.length_drop]; omega
      rw [List.drop_append_of_le_length (by omega), List.take_of_length_le (by rw [List.length_append, hd]; simp; omega), val_append, hd]
      rw [List.getD_eq_getElem?_getD, wordsOf_get _ _ hl, Option.getD_some, List.take_of_length_le (by omega)]
      simp [val]
    · rw [if_neg hjl, wordsOf_get _ _ hj]
      rw [List.drop_append_of_le_length (by omega), List.take_append_of_le_length (by rw [List.length_drop]; omega)]
  · rw [if_neg (by omega)]
    rw [List.getElem?_eq_none (by rw [wordsOf_len, List.length_append, List.length_singleton]; omega), List.getElem?_eq_none (by rw [wordsOf_len]; omega)]

/-- The words of the first n bits of a list of words: each word, its last one cut. -/
theorem wordsOf_bitsOf_get (n : Nat) (L : List Nat) (j : Nat) (h : j < (n + 63) / 64) :
    (wordsOf (bitsOf n L))[j]? = some (L.getD j 0 % 2 ^ (min 64 (n - 64 * j))) := by
  rw [wordsOf_get _ _ (by rw [bitsOf_len]; exact h)]
  congr 1
  rw [← val_digits]
  congr 1
  apply List.ext_getElem?
  intro i
  rw [List.getElem?_take, List.getElem?_drop]
  by_cases hi : i < min 64 (n - 64 * j)
  · rw [if_pos (by omega), bitsOf_get _ _ _ (by omega)]
    have e1 : (64 * j + i) / 64 = j := by omega
    have e2 : (64 * j + i) % 64 = i := by omega
    simp [bitN, e1, e2, hi]
  · have hr : ((List.range (min 64 (n - 64 * j))).map fun i => ((L.getD j 0 / 2 ^ i % 2 : Nat) : Int))[i]? = none := List.getElem?_eq_none (by rw [List.length_map, List.length_range]; omega)
    rw [hr]
    by_cases h64 : i < 64
    · rw [if_pos h64, List.getElem?_eq_none (by rw [bitsOf_len]; omega)]
    · rw [if_neg h64]

/-- The bits after the last one are 0: by the word, as the program asks it. -/
def tailB (n : Nat) (L : List Nat) : Bool := n % 64 == 0 || L.getD (n / 64) 0 / 2 ^ (n % 64) == 0
theorem words_back (n : Nat) (L : List Nat) (hl : L.length = (n + 63) / 64) (hw : ∀ x ∈ L, x < 2 ^ 64) : wordsOf (bitsOf n L) = L ↔ tailB n L = true := by
  have hget : ∀ j, j < L.length → L[j]? = some (L.getD j 0) := fun j hj => by
    rw [List.getD_eq_getElem?_getD, List.getElem?_eq_getElem hj, Option.getD_some]
  have hlt : ∀ j, j < L.length → L.getD j 0 < 2 ^ 64 := fun j hj => by
    rw [List.getD_eq_getElem?_getD, List.getElem?_eq_getElem hj, Option.getD_some]
    exact hw _ (List.getElem_mem hj)
  unfold tailB
  rw [Bool.or_eq_true, beq_iff_eq, beq_iff_eq]
  constructor
  · intro h
    by_cases h0 : n % 64 = 0
    · exact .inl h0
    · right
      have h1 := wordsOf_bitsOf_get n L (n / 64) (by omega)
      rw [h, hget _ (by omega)] at h1
      have h2 := Option.some.inj h1
      rw [show min 64 (n - 64 * (n / 64)) = n % 64 by omega] at h2
      rw [Nat.div_eq_zero_iff]
      right
      rw [h2]
      exact Nat.mod_lt _ (Nat.two_pow_pos _)
  · intro h
    apply List.ext_getElem?
    intro j
    by_cases hj : j < (n + 63) / 64
    · rw [wordsOf_bitsOf_get _ _ _ hj, hget _ (by omega)]
      congr 1
      apply Nat.mod_eq_of_lt
      have hb := hlt j (by omega)
      by_cases hf : 64 ≤ n - 64 * j
      · rw [Nat.min_eq_left hf]; exact hb
      · have hjn : j = n / 64 := by omega
        subst hjn
        rw [show min 64 (n - 64 * (n / 64)) = n % 64 by omega]
        rcases h with h | h
        · omega
        · rw [Nat.div_eq_zero_iff] at h
          rcases h with h | h
          · have := Nat.two_pow_pos (n % 64); omega
          · exact h
    · rw [List.getElem?_eq_none (by rw [wordsOf_len, bitsOf_len]; omega), List.getElem?_eq_none (by omega)]

/-- Which pairs of a number and words are bit vectors. -/
def okB (N : Int) (L : List Nat) : Bool := decide (0 ≤ N ∧ N ≤ 5000 ∧ L.length = (N.toNat + 63) / 64) && tailB N.toNat L

end Go.Proofs.Ytoehgcakfblblaa
