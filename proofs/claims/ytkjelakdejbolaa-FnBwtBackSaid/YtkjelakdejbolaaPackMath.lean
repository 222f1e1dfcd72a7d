import Init
/- Plain mathematics of bit vectors: the bits of a list of words, the words of a list of bits. Nothing of the program and nothing of the model stands here. -/
namespace Go.Proofs.Ytkjelakdejbolaa

/-- Bit i of a list of words. -/
def bitN (L : List Nat) (i : Nat) : Nat := L.getD (i / 64) 0 / 2 ^ (i % 64) % 2
/-- The first n bits of a list of words. -/
def bitsOf (n : Nat) (L : List Nat) : List Int := (List.range n).map fun i => (bitN L i : Int)
/-- The number whose binary digits, the least first, are a list. -/
def val : List Int → Nat
  | [] => 0
  | b :: bs => b.toNat + 2 * val bs
/-- The words of a list of bits. -/
def wordsOf (B : List Int) : List Nat := (List.range ((B.length + 63) / 64)).map fun j => val ((B.drop (64 * j)).take 64)
def IsBits (B : List Int) : Prop := ∀ b ∈ B, b = 0 ∨ b = 1

theorem bitN_lt (L : List Nat) (i : Nat) : bitN L i < 2 := Nat.mod_lt _ (by omega)
theorem bitsOf_len (n : Nat) (L : List Nat) : (bitsOf n L).length = n := by simp [bitsOf]
theorem bitsOf_get (n : Nat) (L : List Nat) (i : Nat) (h : i < n) : (bitsOf n L)[i]? = some (bitN L i : Int) := by simp [bitsOf, h]
theorem bitsOf_take (n k : Nat) (L : List Nat) (h : k ≤ n) : (bitsOf n L).take k = bitsOf k L := by
  apply List.ext_getElem?
  intro i
  rw [List.getElem?_take]
  by_cases hi : i < k
  · rw [if_pos hi, bitsOf_get _ _ _ (by omega), bitsOf_get _ _ _ hi]
  · rw [if_neg hi]
    simp [bitsOf, hi]
theorem bitsOf_succ (n : Nat) (L : List Nat) : bitsOf (n + 1) L = bitsOf n L ++ [(bitN L n : Int)] := by simp [bitsOf, List.range_succ]
theorem bitsOf_bits (n : Nat) (L : List Nat) : IsBits (bitsOf n L) := by
  intro b hb
  simp only [bitsOf, List.mem_map] at hb
  obtain ⟨i, _, rfl⟩ := hb
  have := bitN_lt L i
  omega

theorem val_append (xs ys : List Int) : val (xs ++ ys) = val xs + 2 ^ xs.length * val ys := by
  induction xs with
  | nil => simp [val]
  | cons b bs ih =>
    simp only [List.cons_append, val, ih, List.length_cons, Nat.pow_succ]
    rw [Nat.mul_add, Nat.mul_comm (2 ^ bs.length) 2, Nat.mul_assoc, Nat.add_assoc]
theorem val_lt (xs : List Int) (h : IsBits xs) : val xs < 2 ^ xs.length := by
  induction xs with
  | nil => simp [val]
  | cons b bs ih =>
    have h1 := ih fun b hb => h b (List.mem_cons_of_mem _ hb)
    have h2 := h b (List.mem_cons_self ..)
    simp only [val, List.length_cons, Nat.pow_succ]
    omega
theorem val_digits (x m : Nat) : val ((List.range m).map fun i => ((x / 2 ^ i % 2 : Nat) : Int)) = x % 2 ^ m := by
  induction m with
  | zero => simp [val, Nat.mod_one]
  | succ m ih =>
    rw [List.range_succ, List.map_append, val_append, ih]
    simp only [List.map_cons, List.map_nil, val, List.length_map, List.length_range, Int.toNat_natCast, Nat.mul_zero, Nat.add_zero]
    rw [Nat.pow_succ, Nat.mod_mul]

theorem wordsOf_len (B : List Int) : (wordsOf B).length = (B.length + 63) / 64 := by simp [wordsOf]
theorem wordsOf_get (B : List Int) (j : Nat) (h : j < (B.length + 63) / 64) : (wordsOf B)[j]? = some (val ((B.drop (64 * j)).take 64)) := by simp [wordsOf, h]
theorem wordsOf_nil : wordsOf [] = [] := by simp [wordsOf]

theorem IsBits.sub {B C : List Int} (h : IsBits B) (hs : ∀ b ∈ C, b ∈ B) : IsBits C := fun b hb => h b (hs b hb)
theorem IsBits.take {B : List Int} (h : IsBits B) (n : Nat) : IsBits (B.take n) := h.sub fun _ hb => List.mem_of_mem_take hb
theorem IsBits.drop {B : List Int} (h : IsBits B) (n : Nat) : IsBits (B.drop n) := h.sub fun _ hb => List.mem_of_mem_drop hb

theorem wordsOf_lt (B : List Int) (h : IsBits B) : ∀ x ∈ wordsOf B, x < 2 ^ 64 := by
  intro x hx
  simp only [wordsOf, List.mem_map] at hx
  obtain ⟨j, _, rfl⟩ := hx
  have h1 := val_lt _ ((h.drop (64 * j)).take 64)
  have h2 : ((B.drop (64 * j)).take 64).length ≤ 64 := List.length_take_le _ _
  exact Nat.lt_of_lt_of_le h1 (Nat.pow_le_pow_right (by omega) h2)

/-- The words once a bit more is there: a new word where one begins. -/
theorem wordsOf_snoc0 (B : List Int) (b : Int) (h : B.length % 64 = 0) : wordsOf (B ++ [b]) = wordsOf B ++ [b.toNat] := by
  have e : (B.length + 1 + 63) / 64 = (B.length + 63) / 64 + 1 := by omega
  have e2 : (B.length + 63) / 64 = B.length / 64 := by omega
  unfold wordsOf
  rw [List.length_append, List.length_singleton, e, List.range_succ, List.map_append]
  congr 1
  · apply List.map_congr_left
    intro j hj
    rw [List.mem_range, e2] at hj
    rw [List.drop_append_of_le_length (by omega), List.take_append_of_le_length (by rw [List.length_drop]; omega)]
  · simp only [List.map_cons, List.map_nil]
    rw [e2, show 64 * (B.length / 64) = B.length by omega, List.drop_left]
    simp [val]
/-- .. and the last word's next digit where none begins. -/
theorem wordsOf_snoc (B : List Int) (b : Int) (h : B.length % 64 ≠ 0) :
    wordsOf (B ++ [b]) = (wordsOf B).set (B.length / 64) ((wordsOf B).getD (B.length / 64) 0 + 2 ^ (B.length % 64) * b.toNat) := by
  have e : (B.length + 1 + 63) / 64 = (B.length + 63) / 64 := by omega
  have hl : B.length / 64 < (B.length + 63) / 64 := by omega
  apply List.ext_getElem?
  intro j
  rw [List.getElem?_set]
  by_cases hj : j < (B.length + 63) / 64
  · rw [wordsOf_get _ _ (by rw [List.length_append, List.length_singleton, e]; exact hj)]
    by_cases hjl : B.length / 64 = j
    · subst hjl
      rw [if_pos rfl, if_pos (by rw [wordsOf_len]; exact hl)]
      have hd : ((B.drop (64 * (B.length / 64))).length) = B.length % 64 := by rw [List.length_drop]; omega
      rw [List.drop_append_of_le_length (by omega), List.take_of_length_le (by rw [List.length_append, hd]; simp; omega), val_append, hd]
      rw [List.getD_eq_getElem?_getD, wordsOf_get _ _ hl, Option.getD_some, List.take_of_length_le (by omega)]
      simp [val]
    · rw [if_neg hjl, wordsOf_get _ _ hj]
      rw [List.drop_append_of_le_length (by omega), List.take_append_of_le_length (by rw [List.length_drop]; omega)]
  · rw [if_neg (by omega)]
    rw [List.getElem?_eq_none (by rw [wordsOf_len, List.length_append, List.length_singleton]; omega), List.getElem?_eq_none (by rw [wordsOf_len]; omega)]

/-- The words of the first n bits of a list of words: each word, its last one cut. -/
theorem wordsOf_bitsOf_get (n : Nat) (L : List Nat) (j : Nat) (h : j < (n + 63) / 64) :
    (wordsOf (bitsOf n L))[j]? = some (L.getD j 0 % 2 ^ (min 64 (n - 64 * j))) := by
  rw [wordsOf_get _ _ (by rw [bitsOf_len]; exact h)]
  congr 1
  rw [← val_digits]
  congr 1
  apply List.ext_getElem?
  intro i
  rw [List.getElem?_take, List.getElem?_drop]
  by_cases hi : i < min 64 (n - 64 * j)
  · rw [if_pos (by omega), bitsOf_get _ _ _ (by omega)]
    have e1 : (64 * j + i) / 64 = j := by omega
    have e2 : (64 * j + i) % 64 = i := by omega
    simp [bitN, e1, e2, hi]
  · have hr : ((List.range (min 64 (n - 64 * j))).map fun i => ((L.getD j 0 / 2 ^ i % 2 : Nat) : Int))[i]? = none := List.getElem?_eq_none (by rw [List.length_map, List.length_range]; omega)
    rw [hr]
    by_cases h64 : i < 64
    · rw [if_pos h64, List.getElem?_eq_none (by rw [bitsOf_len]; omega)]
    · rw [if_neg h64]

/-- The bits after the last one are 0: by the word, as the program asks it. -/
def tailB (n : Nat) (L : List Nat) : Bool := n % 64 == 0 || L.getD (n / 64) 0 / 2 ^ (n % 64) == 0
theorem words_back (n : Nat) (L : List Nat) (hl : L.length = (n + 63) / 64) (hw : ∀ x ∈ L, x < 2 ^ 64) : wordsOf (bitsOf n L) = L ↔ tailB n L = true := by
  have hget : ∀ j, j < L.length → L[j]? = some (L.getD j 0) := fun j hj => by
    rw [List.getD_eq_getElem?_getD, List.getElem?_eq_getElem hj, Option.getD_some]
  have hlt : ∀ j, j < L.length → L.getD j 0 < 2 ^ 64 := fun j hj => by
    rw [List.getD_eq_getElem?_getD, List.getElem?_eq_getElem hj, Option.getD_some]
    exact hw _ (List.getElem_mem hj)
  unfold tailB
  rw [Bool.or_eq_true, beq_iff_eq, beq_iff_eq]
  constructor
  · intro h
    by_cases h0 : n % 64 = 0
    · exact .inl h0
    · right
      have h1 := wordsOf_bitsOf_get n L (n / 64) (by omega)
      rw [h, hget _ (by omega)] at h1
      have h2 := Option.some.inj h1
      rw [show min 64 (n - 64 * (n / 64)) = n % 64 by omega] at h2
      rw [Nat.div_eq_zero_iff]
      right
      rw [h2]
      exact Nat.mod_lt _ (Nat.two_pow_pos _)
  · intro h
    apply List.ext_getElem?
    intro j
    by_cases hj : j < (n + 63) / 64
    · rw [wordsOf_bitsOf_get _ _ _ hj, hget _ (by omega)]
      congr 1
      apply Nat.mod_eq_of_lt
      have hb := hlt j (by omega)
      by_cases hf : 64 ≤ n - 64 * j
      · rw [Nat.min_eq_left hf]; exact hb
      · have hjn : j = n / 64 := by omega
        subst hjn
        rw [show min 64 (n - 64 * (n / 64)) = n % 64 by omega]
        rcases h with h | h
        · omega
        · rw [Nat.div_eq_zero_iff] at h
          rcases h with h | h
          · have := Nat.two_pow_pos (n % 64); omega
          · exact h
    · rw [List.getElem?_eq_none (by rw [wordsOf_len, bitsOf_len]; omega), List.getElem?_eq_none (by omega)]

/-- Which pairs of a number and words are bit vectors. -/
def okB (N : Int) (L : List Nat) : Bool := decide (0 ≤ N ∧ N ≤ 5000 ∧ L.length = (N.toNat + 63) / 64) && tailB N.toNat L

end Go.Proofs.Ytkjelakdejbolaa

/- More plain mathematics of bit vectors. -/
namespace Go.Proofs.Ytkjelakdejbolaa

/-- What BitAt is to return. -/
def bitAtV (N : Int) (L : List Nat) (i : Int) : Int := if okB N L = true ∧ 0 ≤ i ∧ i < N then (bitN L i.toNat : Int) else -1

theorem okB_nat {N : Int} {L : List Nat} (h : okB N L = true) : ∃ n : Nat, N = n ∧ n ≤ 5000 ∧ L.length = (n + 63) / 64 ∧ tailB n L = true := by
  unfold okB at h
  rw [Bool.and_eq_true, decide_eq_true_iff] at h
  obtain ⟨⟨h0, h1, h2⟩, h3⟩ := h
  exact ⟨N.toNat, by omega, by omega, h2, h3⟩

end Go.Proofs.Ytkjelakdejbolaa

/- Plain mathematics of joined bit vectors: words as the digits of one number. -/
namespace Go.Proofs.Ytkjelakdejbolaa

theorem nat_or_add (i x y : Nat) (hx : x % 2 ^ i = 0) (hy : y < 2 ^ i) : x ||| y = x + y := by
  obtain ⟨q, hq⟩ : ∃ q, x = 2 ^ i * q := ⟨x / 2 ^ i, by have := Nat.div_add_mod x (2 ^ i); omega⟩
  rw [hq, ← Nat.two_pow_add_eq_or_of_lt hy]

/-- The first T digits of a number to the base 2 to the 64. -/
def digits (T v : Nat) : List Nat := (List.range T).map fun j => v / 2 ^ (64 * j) % 2 ^ 64
theorem digits_len (T v : Nat) : (digits T v).length = T := by simp [digits]
theorem digits_get (T v j : Nat) (h : j < T) : (digits T v)[j]? = some (v / 2 ^ (64 * j) % 2 ^ 64) := by simp [digits, h]

/-- The words of bits are the digits of their number. -/
theorem wordsOf_digits (B : List Int) (hB : IsBits B) : wordsOf B = digits ((B.length + 63) / 64) (val B) := by
  apply List.ext_getElem?
  intro j
  by_cases hj : j < (B.length + 63) / 64
  · rw [wordsOf_get _ _ hj, digits_get _ _ _ hj]
    congr 1
    have e1 : val B = val (B.take (64 * j)) + 2 ^ (64 * j) * val (B.drop (64 * j)) := by
      conv => lhs; rw [← List.take_append_drop (64 * j) B]
      rw [val_append, List.length_take, Nat.min_eq_left (by omega)]
    have h1 : val (B.take (64 * j)) < 2 ^ (64 * j) := by
      have := val_lt _ (hB.take (64 * j))
      rwa [List.length_take, Nat.min_eq_left (by omega)] at this
    have e2 : val B / 2 ^ (64 * j) = val (B.drop (64 * j)) := by
      rw [e1, Nat.add_mul_div_left _ _ (Nat.two_pow_pos _), Nat.div_eq_of_lt h1, Nat.zero_add]
    rw [e2]
    by_cases h64 : 64 ≤ (B.drop (64 * j)).length
    · have e3 : val (B.drop (64 * j)) = val ((B.drop (64 * j)).take 64) + 2 ^ 64 * val ((B.drop (64 * j)).drop 64) := by
        conv => lhs; rw [← List.take_append_drop 64 (B.drop (64 * j))]
        rw [val_append, List.length_take, Nat.min_eq_left h64]
      have h3 : val ((B.drop (64 * j)).take 64) < 2 ^ 64 := by
        have := val_lt _ ((hB.drop (64 * j)).take 64)
        rwa [List.length_take, Nat.min_eq_left h64] at this
      rw [e3, Nat.add_mul_mod_self_left, Nat.mod_eq_of_lt h3]
    · rw [List.take_of_length_le (by omega)]
      have h3 : val (B.drop (64 * j)) < 2 ^ 64 := by
        have := val_lt _ (hB.drop (64 * j))
        exact Nat.lt_of_lt_of_le this (Nat.pow_le_pow_right (by omega) (by omega))
      rw [Nat.mod_eq_of_lt h3]
  · rw [List.getElem?_eq_none (by rw [wordsOf_len]; omega), List.getElem?_eq_none (by rw [digits_len]; omega)]

/-- A word laid in at bit 64 f + s of a number that ends before it: what the digits become. -/
theorem digits_put (T v f s x : Nat) (hs : s < 64) (hv : v < 2 ^ (64 * f + s)) (hx : x < 2 ^ 64) (hf : f < T) :
    digits T (v + 2 ^ (64 * f + s) * x) = ((digits T v).set f (v / 2 ^ (64 * f) % 2 ^ 64 + x * 2 ^ s % 2 ^ 64)).set (f + 1) (x * 2 ^ s / 2 ^ 64) ∧ v / 2 ^ (64 * f) % 2 ^ 64 < 2 ^ s ∧ (∀ j, f < j → v / 2 ^ (64 * j) % 2 ^ 64 = 0) := by
  have hp : 0 < 2 ^ (64 * f) := Nat.two_pow_pos _
  have hd : v / 2 ^ (64 * f) < 2 ^ s := by
    rw [Nat.div_lt_iff_lt_mul hp, ← Nat.pow_add, Nat.add_comm]; exact hv
  have hps : 2 ^ s ≤ 2 ^ 63 := Nat.pow_le_pow_right (by omega) (by omega)
  have hd64 : v / 2 ^ (64 * f) % 2 ^ 64 = v / 2 ^ (64 * f) := Nat.mod_eq_of_lt (by omega)
  have hzero : ∀ j, f < j → v / 2 ^ (64 * j) = 0 := fun j hj => by
    apply Nat.div_eq_of_lt
    exact Nat.lt_of_lt_of_le hv (Nat.pow_le_pow_right (by omega) (by omega))
  refine ⟨?_, by rw [hd64]; exact hd, fun j hj => by rw [hzero j hj]⟩
  have hsplit : (v + 2 ^ (64 * f + s) * x) / 2 ^ (64 * f) = v / 2 ^ (64 * f) + 2 ^ s * x := by
    rw [Nat.pow_add, Nat.mul_assoc, Nat.add_mul_div_left _ _ hp]
  have hspos : 0 < 2 ^ s := Nat.two_pow_pos s
  obtain ⟨k, hk⟩ : ∃ k, 2 ^ 64 = 2 ^ s * k := ⟨2 ^ (64 - s), by rw [← Nat.pow_add]; congr 1; try omega⟩
  have hm1 : (2 ^ s * x) % 2 ^ 64 = 2 ^ s * (x % k) := by rw [hk, Nat.mul_mod_mul_left]
  have hkpos : 0 < k := by
    rcases Nat.eq_zero_or_pos k with h | h
    · rw [h, Nat.mul_zero] at hk; exact absurd hk (by decide)
    · exact h
  have hrest : v / 2 ^ (64 * f) + (2 ^ s * x) % 2 ^ 64 < 2 ^ 64 := by
    rw [hm1]
    have h1 : x % k + 1 ≤ k := Nat.mod_lt _ hkpos
    have h2 : 2 ^ s * (x % k + 1) ≤ 2 ^ s * k := Nat.mul_le_mul_left _ h1
    rw [← hk, Nat.mul_add, Nat.mul_one] at h2
    omega
  have hmod : (v / 2 ^ (64 * f) + 2 ^ s * x) % 2 ^ 64 = v / 2 ^ (64 * f) + 2 ^ s * x % 2 ^ 64 := by
    rw [Nat.add_mod, Nat.mod_eq_of_lt (show v / 2 ^ (64 * f) < 2 ^ 64 by omega), Nat.mod_eq_of_lt hrest]
  have hdiv : (v / 2 ^ (64 * f) + 2 ^ s * x) / 2 ^ 64 = 2 ^ s * x / 2 ^ 64 := by
    have e := Nat.div_add_mod (2 ^ s * x) (2 ^ 64)
    conv => lhs; rw [← e]
    rw [show v / 2 ^ (64 * f) + (2 ^ 64 * (2 ^ s * x / 2 ^ 64) + 2 ^ s * x % 2 ^ 64) = (v / 2 ^ (64 * f) + 2 ^ s * x % 2 ^ 64) + 2 ^ 64 * (2 ^ s * x / 2 ^ 64) by omega]
    rw [Nat.add_mul_div_left _ _ (by decide), Nat.div_eq_of_lt hrest, Nat.zero_add]
  apply List.ext_getElem?
  intro j
  by_cases hj : j < T
  · rw [digits_get _ _ _ hj, List.getElem?_set, List.length_set, digits_len, List.getElem?_set, digits_len]
    by_cases h1 : f + 1 = j
    · subst h1
      rw [if_pos rfl, if_pos hj]
      congr 1
      rw [show 2 ^ (64 * (f + 1)) = 2 ^ (64 * f) * 2 ^ 64 by rw [← Nat.pow_add]; congr 1, ← Nat.div_div_eq_div_mul, hsplit, hdiv, Nat.mul_comm x]
      apply Nat.mod_eq_of_lt
      rw [Nat.div_lt_iff_lt_mul (by decide)]
      exact Nat.lt_of_lt_of_le (Nat.mul_lt_mul_of_lt_of_le (show 2 ^ s < 2 ^ 64 by omega) (Nat.le_of_lt hx) (by decide)) (Nat.le_refl _)
    · rw [if_neg h1]
      by_cases h2 : f = j
      · subst h2
        rw [if_pos rfl, if_pos hj, hsplit, hmod, hd64, Nat.mul_comm x]
      · rw [if_neg h2, digits_get _ _ _ hj]
        congr 1
        rcases Nat.lt_or_ge j f with h3 | h3
        · obtain ⟨q, hq⟩ : ∃ q, 2 ^ (64 * f + s) = 2 ^ (64 * j) * (2 ^ 64 * q) := ⟨2 ^ (64 * f + s - 64 * j - 64), by rw [← Nat.pow_add, ← Nat.pow_add]; congr 1; omega⟩
          rw [hq, Nat.mul_assoc, Nat.add_mul_div_left _ _ (Nat.two_pow_pos _), Nat.mul_assoc, Nat.add_mul_mod_self_left]
        · have h4 : f + 1 < j := by omega
          rw [hzero j (by omega)]
          have hlt : v + 2 ^ (64 * f + s) * x < 2 ^ (64 * j) := by
            have ha : v + 2 ^ (64 * f + s) * x < 2 ^ (64 * f + s) * (x + 1) := by rw [Nat.mul_add, Nat.mul_one]; omega
            have hb : 2 ^ (64 * f + s) * (x + 1) ≤ 2 ^ (64 * f + s) * 2 ^ 64 := Nat.mul_le_mul_left _ hx
            rw [← Nat.pow_add] at hb
            exact Nat.lt_of_lt_of_le ha (Nat.le_trans hb (Nat.pow_le_pow_right (by omega) (by omega)))
          rw [Nat.div_eq_of_lt hlt]
  · rw [List.getElem?_eq_none (by rw [digits_len]; omega), List.getElem?_eq_none (by rw [List.length_set, List.length_set, digits_len]; omega)]

/-- The number of a valid bit vector: its bits, and its words as digits. -/
theorem valid_digits (n : Nat) (L : List Nat) (hl : L.length = (n + 63) / 64) (hw : ∀ x ∈ L, x < 2 ^ 64) (ht : tailB n L = true) : L = digits L.length (val (bitsOf n L)) := by
  have h := wordsOf_digits (bitsOf n L) (bitsOf_bits n L)
  rw [(words_back n L hl hw).2 ht, bitsOf_len, ← hl] at h
  exact h

/-- The number after k words of the second vector are laid in. -/
def joinNum (n : Nat) (L : List Nat) (m : Nat) (K : List Nat) (k : Nat) : Nat := val (bitsOf n L) + 2 ^ n * (val (bitsOf m K) % 2 ^ (64 * k))

theorem joinNum_zero (n : Nat) (L : List Nat) (m : Nat) (K : List Nat) : joinNum n L m K 0 = val (bitsOf n L) := by simp [joinNum, Nat.mod_one]
theorem joinNum_lt (n : Nat) (L : List Nat) (m : Nat) (K : List Nat) (k : Nat) : joinNum n L m K k < 2 ^ (n + 64 * k) := by
  have h1 := val_lt _ (bitsOf_bits n L)
  rw [bitsOf_len] at h1
  have h2 : val (bitsOf m K) % 2 ^ (64 * k) + 1 ≤ 2 ^ (64 * k) := Nat.mod_lt _ (Nat.two_pow_pos _)
  have h3 : 2 ^ n * (val (bitsOf m K) % 2 ^ (64 * k) + 1) ≤ 2 ^ n * 2 ^ (64 * k) := Nat.mul_le_mul_left _ h2
  rw [Nat.mul_add, Nat.mul_one, ← Nat.pow_add] at h3
  unfold joinNum
  omega
theorem joinNum_succ (n : Nat) (L : List Nat) (m : Nat) (K : List Nat) (k x : Nat) (hx : val (bitsOf m K) / 2 ^ (64 * k) % 2 ^ 64 = x) : joinNum n L m K (k + 1) = joinNum n L m K k + 2 ^ (n + 64 * k) * x := by
  unfold joinNum
  rw [show 64 * (k + 1) = 64 * k + 64 by omega, Nat.pow_add 2 (64 * k), Nat.mod_mul, hx, Nat.mul_add, Nat.pow_add, Nat.mul_assoc, Nat.add_assoc]
theorem joinNum_all (n : Nat) (L : List Nat) (m : Nat) (K : List Nat) (k : Nat) (hk : m ≤ 64 * k) : joinNum n L m K k = val (bitsOf n L ++ bitsOf m K) := by
  have h2 := val_lt _ (bitsOf_bits m K)
  rw [bitsOf_len] at h2
  unfold joinNum
  rw [val_append, bitsOf_len, Nat.mod_eq_of_lt (Nat.lt_of_lt_of_le h2 (Nat.pow_le_pow_right (by omega) hk))]

theorem join_bits (n : Nat) (L : List Nat) (m : Nat) (K : List Nat) : IsBits (bitsOf n L ++ bitsOf m K) := by
  intro b hb
  rcases List.mem_append.1 hb with h | h
  · exact bitsOf_bits _ _ b h
  · exact bitsOf_bits _ _ b h

/-- The words at the start: the first vector's, and then 0. -/
theorem join_start (n : Nat) (L : List Nat) (T : Nat) (hl : L.length = (n + 63) / 64) (hT : L.length ≤ T) (hw : ∀ x ∈ L, x < 2 ^ 64) (ht : tailB n L = true) : digits T (val (bitsOf n L)) = L ++ List.replicate (T - L.length) 0 := by
  have h := valid_digits n L hl hw ht
  have hv := val_lt _ (bitsOf_bits n L)
  rw [bitsOf_len] at hv
  apply List.ext_getElem?
  intro j
  by_cases hj : j < T
  · rw [digits_get _ _ _ hj]
    by_cases hjl : j < L.length
    · rw [List.getElem?_append_left hjl]
      conv => rhs; rw [h]
      rw [digits_get _ _ _ hjl]
    · rw [List.getElem?_append_right (by omega), List.getElem?_replicate, if_pos (by omega)]
      congr 1
      rw [Nat.div_eq_of_lt (Nat.lt_of_lt_of_le hv (Nat.pow_le_pow_right (by omega) (by omega)))]
  · rw [List.getElem?_eq_none (by rw [digits_len]; omega), List.getElem?_eq_none (by rw [List.length_append, List.length_replicate]; omega)]

/-- One round: what the two words become. -/
theorem join_round (n : Nat) (L : List Nat) (m : Nat) (K : List Nat) (T k x : Nat) (hl : K.length = (m + 63) / 64) (hw : ∀ x ∈ K, x < 2 ^ 64) (ht : tailB m K = true) (hx : K[k]? = some x) (hf : n / 64 + k < T) :
    digits T (joinNum n L m K (k + 1)) = ((digits T (joinNum n L m K k)).set (n / 64 + k) (joinNum n L m K k / 2 ^ (64 * (n / 64 + k)) % 2 ^ 64 ||| x * 2 ^ (n % 64) % 2 ^ 64)).set (n / 64 + k + 1) (x * 2 ^ (n % 64) / 2 ^ 64) ∧
    (n / 64 + k + 1 < T → (digits T (joinNum n L m K k))[n / 64 + k + 1]? = some 0) := by
  have hk := (List.getElem?_eq_some_iff.1 hx).1
  have hd := valid_digits m K hl hw ht
  have hxd : val (bitsOf m K) / 2 ^ (64 * k) % 2 ^ 64 = x := by
    have h1 : K[k]? = (digits K.length (val (bitsOf m K)))[k]? := by rw [← hd]
    rw [hx, digits_get _ _ _ hk] at h1
    exact (Option.some.inj h1).symm
  have e : n + 64 * k = 64 * (n / 64 + k) + n % 64 := by omega
  have hlt := joinNum_lt n L m K k
  rw [e] at hlt
  obtain ⟨h1, h2, h3⟩ := digits_put T (joinNum n L m K k) (n / 64 + k) (n % 64) x (by omega) hlt (hw x (List.mem_of_getElem? hx)) hf
  have hor : joinNum n L m K k / 2 ^ (64 * (n / 64 + k)) % 2 ^ 64 ||| x * 2 ^ (n % 64) % 2 ^ 64 = joinNum n L m K k / 2 ^ (64 * (n / 64 + k)) % 2 ^ 64 + x * 2 ^ (n % 64) % 2 ^ 64 := by
    obtain ⟨q, hq⟩ : ∃ q, 2 ^ 64 = 2 ^ (n % 64) * q := ⟨2 ^ (64 - n % 64), by rw [← Nat.pow_add, show n % 64 + (64 - n % 64) = 64 by omega]⟩
    have hm : x * 2 ^ (n % 64) % 2 ^ 64 % 2 ^ (n % 64) = 0 := by
      rw [hq, Nat.mod_mul_right_mod, Nat.mul_mod_left]
    rw [Nat.or_comm, nat_or_add _ _ _ hm h2, Nat.add_comm]
  rw [joinNum_succ n L m K k x hxd, e, h1, hor]
  refine ⟨rfl, fun hT => ?_⟩
  rw [digits_get _ _ _ hT, h3 _ (by omega)]

end Go.Proofs.Ytkjelakdejbolaa

/- Plain mathematics of packed integers. Nothing of the program and nothing of the model stands here. -/
namespace Go.Proofs.Ytkjelakdejbolaa

/-- One round of reading a field out of units of s bits. -/
theorem field_round (V a g s x m : Nat) (hs : 0 < s) (hx : x = V / 2 ^ (s * ((a + g) / s)) % 2 ^ s) (hm : m = V / 2 ^ a % 2 ^ (min g 64)) :
    m ||| x / 2 ^ ((a + g) % s) * 2 ^ g % 2 ^ 64 = V / 2 ^ a % 2 ^ (min (g + (s - (a + g) % s)) 64) := by
  have hf := Nat.mod_lt (a + g) hs
  have hd := Nat.div_add_mod (a + g) s
  generalize (a + g) % s = f at *
  generalize s * ((a + g) / s) = u at *
  subst hx hm
  apply Nat.eq_of_testBit_eq
  intro i
  rw [Nat.testBit_or, Nat.testBit_mod_two_pow, Nat.testBit_mod_two_pow, Nat.testBit_mod_two_pow, Nat.testBit_div_two_pow, Nat.mul_comm, Nat.testBit_two_pow_mul, Nat.testBit_div_two_pow, Nat.testBit_mod_two_pow, Nat.testBit_div_two_pow]
  by_cases h64 : i < 64
  · by_cases hg : i < g
    · have h1 : ¬ g ≤ i := by omega
      have h2 : i < min g 64 := by omega
      have h3 : i < min (g + (s - f)) 64 := by omega
      simp [h1, h2, h3]
    · have h1 : g ≤ i := by omega
      have h2 : ¬ i < min g 64 := by omega
      by_cases h3 : i < g + (s - f)
      · have h4 : i < min (g + (s - f)) 64 := by omega
        have h5 : i - g + f < s := by omega
        have h6 : i - g + f + u = i + a := by omega
        simp [h1, h2, h4, h5, h6, h64]
      · have h4 : ¬ i < min (g + (s - f)) 64 := by omega
        have h5 : ¬ i - g + f < s := by omega
        simp [h2, h4, h5]
  · have h2 : ¬ i < min g 64 := by omega
    have h4 : ¬ i < min (g + (s - f)) 64 := by omega
    simp [h2, h4, h64]

theorem field_end (V a g wd : Nat) (hg : wd ≤ g) (hw : wd ≤ 64) : V / 2 ^ a % 2 ^ (min g 64) % 2 ^ wd = V / 2 ^ a % 2 ^ wd := by
  rw [Nat.mod_mod_of_dvd _ (Nat.pow_dvd_pow 2 (by omega))]

/-- The bits of a list of bits, out of its number. -/
theorem val_bit (B : List Int) (hB : IsBits B) (j : Nat) (h : j < B.length) : B[j]? = some ((val B / 2 ^ j % 2 : Nat) : Int) := by
  have e1 : val B = val (B.take j) + 2 ^ j * val (B.drop j) := by
    conv => lhs; rw [← List.take_append_drop j B]
    rw [val_append, List.length_take, Nat.min_eq_left (by omega)]
  have h1 : val (B.take j) < 2 ^ j := by
    have := val_lt _ (hB.take j)
    rwa [List.length_take, Nat.min_eq_left (by omega)] at this
  have e2 : val B / 2 ^ j = val (B.drop j) := by
    rw [e1, Nat.add_mul_div_left _ _ (Nat.two_pow_pos _), Nat.div_eq_of_lt h1, Nat.zero_add]
  have hb := hB B[j] (List.getElem_mem h)
  rw [e2, List.drop_eq_getElem_cons h, val, List.getElem?_eq_getElem h]
  congr 1
  omega

/-- Digit by digit from above. -/
theorem field_down (V a d : Nat) : V / 2 ^ a % 2 ^ (d + 1) = 2 * (V / 2 ^ (a + 1) % 2 ^ d) + V / 2 ^ a % 2 := by
  rw [Nat.pow_succ 2 d, Nat.mul_comm (2 ^ d), Nat.mod_mul, Nat.pow_succ, ← Nat.div_div_eq_div_mul, Nat.add_comm]

/-- The binary digits of a number, the least first. -/
def numBits (wd : Nat) (n : Int) : List Int := (List.range wd).map fun i => ((n.toNat / 2 ^ i % 2 : Nat) : Int)
theorem numBits_len (wd : Nat) (n : Int) : (numBits wd n).length = wd := by simp [numBits]
theorem numBits_bits (wd : Nat) (n : Int) : IsBits (numBits wd n) := by
  intro b hb
  simp only [numBits, List.mem_map] at hb
  obtain ⟨i, _, rfl⟩ := hb
  have := Nat.mod_lt (n.toNat / 2 ^ i) (show 0 < 2 by decide)
  omega
theorem numBits_val (wd : Nat) (n : Int) : val (numBits wd n) = n.toNat % 2 ^ wd := val_digits n.toNat wd
theorem numBits_succ (wd : Nat) (n : Int) : numBits (wd + 1) n = numBits wd n ++ [((n.toNat / 2 ^ wd % 2 : Nat) : Int)] := by simp [numBits, List.range_succ]

/-- The bits of a list of numbers, and their number. -/
def packBits (wd : Nat) (L : List Int) : List Int := (L.map (numBits wd)).flatten
def packNum (wd : Nat) (L : List Int) : Nat := val (packBits wd L)
theorem packBits_nil (wd : Nat) : packBits wd [] = [] := rfl
theorem packBits_snoc (wd : Nat) (L : List Int) (n : Int) : packBits wd (L ++ [n]) = packBits wd L ++ numBits wd n := by simp [packBits]
theorem packBits_append (wd : Nat) (L M : List Int) : packBits wd (L ++ M) = packBits wd L ++ packBits wd M := by simp [packBits]
theorem packBits_cons (wd : Nat) (n : Int) (M : List Int) : packBits wd (n :: M) = numBits wd n ++ packBits wd M := by simp [packBits]
theorem packBits_len (wd : Nat) (L : List Int) : (packBits wd L).length = L.length * wd := by
  induction L with
  | nil => simp [packBits]
  | cons n L ih =>
    have e : packBits wd (n :: L) = numBits wd n ++ packBits wd L := by simp [packBits]
    rw [e, List.length_append, numBits_len, ih, List.length_cons, Nat.succ_mul, Nat.add_comm]
theorem packBits_bits (wd : Nat) (L : List Int) : IsBits (packBits wd L) := by
  intro b hb
  simp only [packBits, List.mem_flatten, List.mem_map] at hb
  obtain ⟨l, ⟨n, _, rfl⟩, h⟩ := hb
  exact numBits_bits wd n b h
theorem packNum_lt (wd : Nat) (L : List Int) : packNum wd L < 2 ^ (L.length * wd) := by
  have h := val_lt _ (packBits_bits wd L)
  rwa [packBits_len] at h
theorem packNum_nil (wd : Nat) : packNum wd [] = 0 := rfl
theorem packNum_snoc (wd : Nat) (L : List Int) (n : Nat) (h : n < 2 ^ wd) : packNum wd (L ++ [(n : Int)]) = packNum wd L + 2 ^ (L.length * wd) * n := by
  unfold packNum
  rw [packBits_snoc, val_append, packBits_len, numBits_val, Int.toNat_natCast, Nat.mod_eq_of_lt h]
theorem packWords (wd : Nat) (L : List Int) : wordsOf (packBits wd L) = digits ((L.length * wd + 63) / 64) (packNum wd L) := by
  rw [wordsOf_digits _ (packBits_bits wd L), packBits_len]; rfl

/-- Number k of the packed ones. -/
theorem packNum_get (wd : Nat) (L : List Int) (hL : ∀ n ∈ L, 0 ≤ n ∧ n < 2 ^ wd) (k : Nat) (h : k < L.length) : ((packNum wd L / 2 ^ (k * wd) % 2 ^ wd : Nat) : Int) = L[k] := by
  have e : L = L.take k ++ (L[k] :: L.drop (k + 1)) := by rw [← List.drop_eq_getElem_cons h, List.take_append_drop]
  have hb := hL L[k] (List.getElem_mem h)
  have e1 : packBits wd L = packBits wd (L.take k) ++ (numBits wd L[k] ++ packBits wd (L.drop (k + 1))) := by
    conv => lhs; rw [e]
    rw [packBits_append, packBits_cons]
  have h1 := packNum_lt wd (L.take k)
  have hk : (L.take k).length = k := by rw [List.length_take]; omega
  have h2 : L[k].toNat < 2 ^ wd := by
    have h3 : ((L[k].toNat : Nat) : Int) < ((2 ^ wd : Nat) : Int) := by rw [Int.toNat_of_nonneg hb.1]; simpa using hb.2
    exact Int.ofNat_lt.1 h3
  have e2 : packNum wd L = packNum wd (L.take k) + 2 ^ (k * wd) * (L[k].toNat + 2 ^ wd * packNum wd (L.drop (k + 1))) := by
    unfold packNum
    rw [e1, val_append, val_append, packBits_len, numBits_val, numBits_len, Nat.mod_eq_of_lt h2, hk]
  rw [hk] at h1
  rw [e2, Nat.add_mul_div_left _ _ (Nat.two_pow_pos _), Nat.div_eq_of_lt h1, Nat.zero_add, Nat.add_mul_mod_self_left, Nat.mod_eq_of_lt h2, Int.toNat_of_nonneg hb.1]

/-- The numbers of a packed number. -/
def unpack (wd N V : Nat) : List Int := (List.range N).map fun i => ((V / 2 ^ (i * wd) % 2 ^ wd : Nat) : Int)
theorem unpack_len (wd N V : Nat) : (unpack wd N V).length = N := by simp [unpack]
theorem unpack_get (wd N V i : Nat) (h : i < N) : (unpack wd N V)[i]? = some ((V / 2 ^ (i * wd) % 2 ^ wd : Nat) : Int) := by simp [unpack, h]
theorem unpack_succ (wd N V : Nat) : unpack wd (N + 1) V = unpack wd N V ++ [((V / 2 ^ (N * wd) % 2 ^ wd : Nat) : Int)] := by simp [unpack, List.range_succ]

/-- A number laid in behind those that are there: what the words become. -/
theorem digits_lay (T v f s n : Nat) (hs : s < 64) (hv : v < 2 ^ (64 * f + s)) (hn : n < 2 ^ 32) (hf : f < T) :
    (n * 2 ^ s / 2 ^ 64 = 0 → digits T (v + 2 ^ (64 * f + s) * n) = (digits T v).set f (v / 2 ^ (64 * f) % 2 ^ 64 ||| n * 2 ^ s % 2 ^ 64)) ∧
    digits T (v + 2 ^ (64 * f + s) * n) = ((digits T v).set f (v / 2 ^ (64 * f) % 2 ^ 64 ||| n * 2 ^ s % 2 ^ 64)).set (f + 1) (n * 2 ^ s / 2 ^ 64) ∧ (f + 1 < T → (digits T v)[f + 1]? = some 0) := by
  obtain ⟨h1, h2, h3⟩ := digits_put T v f s n hs hv (Nat.lt_of_lt_of_le hn (by decide)) hf
  have hor : v / 2 ^ (64 * f) % 2 ^ 64 ||| n * 2 ^ s % 2 ^ 64 = v / 2 ^ (64 * f) % 2 ^ 64 + n * 2 ^ s % 2 ^ 64 := by
    obtain ⟨q, hq⟩ : ∃ q, 2 ^ 64 = 2 ^ s * q := ⟨2 ^ (64 - s), by rw [← Nat.pow_add, show s + (64 - s) = 64 by omega]⟩
    have hm : n * 2 ^ s % 2 ^ 64 % 2 ^ s = 0 := by
      rw [hq, Nat.mod_mul_right_mod, Nat.mul_mod_left]
    rw [Nat.or_comm, nat_or_add _ _ _ hm h2, Nat.add_comm]
  have h4 : f + 1 < T → (digits T v)[f + 1]? = some 0 := fun hT => by rw [digits_get _ _ _ hT, h3 _ (by omega)]
  rw [hor]
  refine ⟨fun h0 => ?_, h1, h4⟩
  rw [h1, h0]
  apply List.ext_getElem?
  intro j
  rw [List.getElem?_set]
  by_cases hj : f + 1 = j
  · subst hj
    rw [if_pos rfl, List.length_set, digits_len]
    by_cases hT : f + 1 < T
    · rw [if_pos hT, List.getElem?_set_ne (by omega), h4 hT]
    · rw [if_neg hT, List.getElem?_eq_none (by rw [List.length_set, digits_len]; omega)]
  · rw [if_neg hj]

/-- Where something is left over for the next word there is one. -/
theorem lay_room (T k N wd n f s : Nat) (hk : k < N) (hT : T = (N * wd + 63) / 64) (hf : f = k * wd / 64) (hs : s = k * wd % 64) (hn : n < 2 ^ wd) (h : n * 2 ^ s / 2 ^ 64 ≠ 0) : f + 1 < T := by
  have h1 : 2 ^ 64 ≤ n * 2 ^ s := by
    rcases Nat.lt_or_ge (n * 2 ^ s) (2 ^ 64) with h2 | h2
    · exact absurd (Nat.div_eq_of_lt h2) h
    · exact h2
  have h3 : n * 2 ^ s < 2 ^ (wd + s) := by
    rw [Nat.pow_add]
    exact Nat.mul_lt_mul_of_pos_right hn (Nat.two_pow_pos _)
  have h4 : 64 < wd + s := by
    rcases Nat.lt_or_ge 64 (wd + s) with h5 | h5
    · exact h5
    · have := Nat.pow_le_pow_right (show 0 < 2 by decide) h5
      omega
  have h5 : (k + 1) * wd ≤ N * wd := Nat.mul_le_mul_right _ hk
  rw [Nat.succ_mul] at h5
  omega
/-- A number that is not 0 has a word. -/
theorem lay_first (T k N wd n : Nat) (hk : k < N) (hT : T = (N * wd + 63) / 64) (hn : n < 2 ^ wd) (h : n ≠ 0) : k * wd / 64 < T := by
  have h5 : (k + 1) * wd ≤ N * wd := Nat.mul_le_mul_right _ hk
  rw [Nat.succ_mul] at h5
  have : 0 < wd := by
    rcases Nat.eq_zero_or_pos wd with h6 | h6
    · subst h6; simp at hn; omega
    · exact h6
  omega

end Go.Proofs.Ytkjelakdejbolaa
