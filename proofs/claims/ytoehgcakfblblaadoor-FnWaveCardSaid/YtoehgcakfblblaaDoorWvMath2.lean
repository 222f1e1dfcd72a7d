import Init
/- Plain mathematics of bit vectors: the bits of a list of words, the words of a list of bits. Nothing of the program and nothing of the model stands here. -/
namespace Go.Proofs.YtoehgcakfblblaaDoor

/-- Bit i of a list of words. -/
def bitN (L : List Nat) (i : Nat) : Nat := L.getD (i / 64) 0 / 2 ^ (i % 64) % 2
/-- The first n bits of a list of words. -/
def bitsOf (n : Nat) (L : List Nat) : List Int := (List.range n).map fun i => (bitN L i : Int)
/-- The number whose binary digits, the least first, are a list. -/
def val : List Int → Nat
  | [] => 0
  | b :: bs => b.toNat + 2 * val bs
/-- The words of a list of bits. -/
def wordsOf (B : List Int) : List Nat := (List.range ((B.length + 63) / 64)).map fun j => val ((B.drop (64 * j)).take 64)
def IsBits (B : List Int) : Prop := ∀ b ∈ B, b = 0 ∨ b = 1

theorem bitN_lt (L : List Nat) (i : Nat) : bitN L i < 2 := Nat.mod_lt _ (by omega)
theorem bitsOf_len (n : Nat) (L : List Nat) : (bitsOf n L).length = n := by simp [bitsOf]
theorem bitsOf_get (n : Nat) (L : List Nat) (i : Nat) (h : i < n) : (bitsOf n L)[i]? = some (bitN L i : Int) := by simp [bitsOf, h]
theorem bitsOf_take (n k : Nat) (L : List Nat) (h : k ≤ n) : (bitsOf n L).take k = bitsOf k L := by
  apply List.ext_getElem?
  intro i
  rw [List.getElem?_take]
  by_cases hi : i < k
  · rw [if_pos hi, bitsOf_get _ _ _ (by omega), bitsOf_get _ _ _ hi]
  · rw [if_neg hi]
    simp [bitsOf, hi]
theorem bitsOf_succ (n : Nat) (L : List Nat) : bitsOf (n + 1) L = bitsOf n L ++ [(bitN L n : Int)] := by simp [bitsOf, List.range_succ]
theorem bitsOf_bits (n : Nat) (L : List Nat) : IsBits (bitsOf n L) := by
  intro b hb
  simp only [bitsOf, List.mem_map] at hb
  obtain ⟨i, _, rfl⟩ := hb
  have := bitN_lt L i
  omega

theorem val_append (xs ys : List Int) : val (xs ++ ys) = val xs + 2 ^ xs.length * val ys := by
  induction xs with
  | nil => simp [val]
  | cons b bs ih =>
    simp only [List.cons_append, val, ih, List.length_cons, Nat.pow_succ]
    rw [Nat.mul_add, Nat.mul_comm (2 ^ bs.length) 2, Nat.mul_assoc, Nat.add_assoc]
theorem val_lt (xs : List Int) (h : IsBits xs) : val xs < 2 ^ xs.length := by
  induction xs with
  | nil => simp [val]
  | cons b bs ih =>
    have h1 := ih fun b hb => h b (List.mem_cons_of_mem _ hb)
    have h2 := h b (List.mem_cons_self ..)
    simp only [val, List.length_cons, Nat.pow_succ]
    omega
theorem val_digits (x m : Nat) : val ((List.range m).map fun i => ((x / 2 ^ i % 2 : Nat) : Int)) = x % 2 ^ m := by
  induction m with
  | zero => simp [val, Nat.mod_one]
  | succ m ih =>
    rw [List.range_succ, List.map_append, val_append, ih]
    simp only [List.map_cons, List.map_nil, val, List.length_map, List.length_range, Int.toNat_natCast, Nat.mul_zero, Nat.add_zero]
    rw [Nat.pow_succ, Nat.mod_mul]

theorem wordsOf_len (B : List Int) : (wordsOf B).length = (B.length + 63) / 64 := by simp [wordsOf]
theorem wordsOf_get (B : List Int) (j : Nat) (h : j < (B.length + 63) / 64) : (wordsOf B)[j]? = some (val ((B.drop (64 * j)).take 64)) := by simp [wordsOf, h]
theorem wordsOf_nil : wordsOf [] = [] := by simp [wordsOf]

theorem IsBits.sub {B C : List Int} (h : IsBits B) (hs : ∀ b ∈ C, b ∈ B) : IsBits C := fun b hb => h b (hs b hb)
theorem IsBits.take {B : List Int} (h : IsBits B) (n : Nat) : IsBits (B.take n) := h.sub fun _ hb => List.mem_of_mem_take hb
theorem IsBits.drop {B : List Int} (h : IsBits B) (n : Nat) : IsBits (B.drop n) := h.sub fun _ hb => List.mem_of_mem_drop hb

theorem wordsOf_lt (B : List Int) (h : IsBits B) : ∀ x ∈ wordsOf B, x < 2 ^ 64 := by
  intro x hx
  simp only [wordsOf, List.mem_map] at hx
  obtain ⟨j, _, rfl⟩ := hx
  have h1 := val_lt _ ((h.drop (64 * j)).take 64)
  have h2 : ((B.drop (64 * j)).take 64).length ≤ 64 := List.length_take_le _ _
  exact Nat.lt_of_lt_of_le h1 (Nat.pow_le_pow_right (by omega) h2)

/-- The words once a bit more is there: a new word where one begins. -/
theorem wordsOf_snoc0 (B : List Int) (b : Int) (h : B.length % 64 = 0) : wordsOf (B ++ [b]) = wordsOf B ++ [b.toNat] := by
  have e : (B.length + 1 + 63) / 64 = (B.length + 63) / 64 + 1 := by omega
  have e2 : (B.length + 63) / 64 = B.length / 64 := by omega
  unfold wordsOf
  rw [List.length_append, List.length_singleton, e, List.range_succ, List.map_append]
  congr 1
  · apply List.map_congr_left
    intro j hj
    rw [List.mem_range, e2] at hj
    rw [List.drop_append_of_le_length (by omega), List.take_append_of_le_length (by rw [List.length_drop]; omega)]
  · simp only [List.map_cons, List.map_nil]
    rw [e2, show 64 * (B.length / 64) = B.length by omega, List.drop_left]
    simp [val]
/-- .. and the last word's next digit where none begins. -/
theorem wordsOf_snoc (B : List Int) (b : Int) (h : B.length % 64 ≠ 0) :
    wordsOf (B ++ [b]) = (wordsOf B).set (B.length / 64) ((wordsOf B).getD (B.length / 64) 0 + 2 ^ (B.length % 64) * b.toNat) := by
  have e : (B.length + 1 + 63) / 64 = (B.length + 63) / 64 := by omega
  have hl : B.length / 64 < (B.length + 63) / 64 := by omega
  apply List.ext_getElem?
  intro j
  rw [List.getElem?_set]
  by_cases hj : j < (B.length + 63) / 64
  · rw [wordsOf_get _ _ (by rw [List.length_append, List.length_singleton, e]; exact hj)]
    by_cases hjl : B.length / 64 = j
    · subst hjl
      rw [if_pos rfl, if_pos (by rw [wordsOf_len]; exact hl)]
      have hd : ((B.drop (64 * (B.length / 64))).length) = B.length % 64 := by rw [List.length_drop]; omega
      rw [List.drop_append_of_le_length (by omega), List.take_of_length_le (by rw [List.length_append, hd]; simp; omega), val_append, hd]
      rw [List.getD_eq_getElem?_getD, wordsOf_get _ _ hl, Option.getD_some, List.take_of_length_le (by omega)]
      simp [val]
    · rw [if_neg hjl, wordsOf_get _ _ hj]
      rw [List.drop_append_of_le_length (by omega), List.take_append_of_le_length (by rw [List.length_drop]; omega)]
  · rw [if_neg (by omega)]
    rw [List.getElem?_eq_none (by rw [wordsOf_len, List.length_append, List.length_singleton]; omega), List.getElem?_eq_none (by rw [wordsOf_len]; omega)]

/-- The words of the first n bits of a list of words: each word, its last one cut. -/
theorem wordsOf_bitsOf_get (n : Nat) (L : List Nat) (j : Nat) (h : j < (n + 63) / 64) :
    (wordsOf (bitsOf n L))[j]? = some (L.getD j 0 % 2 ^ (min 64 (n - 64 * j))) := by
  rw [wordsOf_get _ _ (by rw [bitsOf_len]; exact h)]
  congr 1
  rw [← val_digits]
  congr 1
  apply List.ext_getElem?
  intro i
  rw [List.getElem?_take, List.getElem?_drop]
  by_cases hi : i < min 64 (n - 64 * j)
  · rw [if_pos (by omega), bitsOf_get _ _ _ (by omega)]
    have e1 : (64 * j + i) / 64 = j := by omega
    have e2 : (64 * j + i) % 64 = i := by omega
    simp [bitN, e1, e2, hi]
  · have hr : ((List.range (min 64 (n - 64 * j))).map fun i => ((L.getD j 0 / 2 ^ i % 2 : Nat) : Int))[i]? = none := List.getElem?_eq_none (by rw [List.length_map, List.length_range]; omega)
    rw [hr]
    by_cases h64 : i < 64
    · rw [if_pos h64, List.getElem?_eq_none (by rw [bitsOf_len]; omega)]
    · rw [if_neg h64]

/-- The bits after the last one are 0: by the word, as the program asks it. -/
def tailB (n : Nat) (L : List Nat) : Bool := n % 64 == 0 || L.getD (n / 64) 0 / 2 ^ (n % 64) == 0
theorem words_back (n : Nat) (L : List Nat) (hl : L.length = (n + 63) / 64) (hw : ∀ x ∈ L, x < 2 ^ 64) : wordsOf (bitsOf n L) = L ↔ tailB n L = true := by
  have hget : ∀ j, j < L.length → L[j]? = some (L.getD j 0) := fun j hj => by
    rw [List.getD_eq_getElem?_getD, List.getElem?_eq_getElem hj, Option.getD_some]
  have hlt : ∀ j, j < L.length → L.getD j 0 < 2 ^ 64 := fun j hj => by
    rw [List.getD_eq_getElem?_getD, List.getElem?_eq_getElem hj, Option.getD_some]
    exact hw _ (List.getElem_mem hj)
  unfold tailB
  rw [Bool.or_eq_true, beq_iff_eq, beq_iff_eq]
  constructor
  · intro h
    by_cases h0 : n % 64 = 0
    · exact .inl h0
    · right
      have h1 := wordsOf_bitsOf_get n L (n / 64) (by omega)
      rw [h, hget _ (by omega)] at h1
      have h2 := Option.some.inj h1
      rw [show min 64 (n - 64 * (n / 64)) = n % 64 by omega] at h2
      rw [Nat.div_eq_zero_iff]
      right
      rw [h2]
      exact Nat.mod_lt _ (Nat.two_pow_pos _)
  · intro h
    apply List.ext_getElem?
    intro j
    by_cases hj : j < (n + 63) / 64
    · rw [wordsOf_bitsOf_get _ _ _ hj, hget _ (by omega)]
      congr 1
      apply Nat.mod_eq_of_lt
      have hb := hlt j (by omega)
      by_cases hf : 64 ≤ n - 64 * j
      · rw [Nat.min_eq_left hf]; exact hb
      · have hjn : j = n / 64 := by omega
        subst hjn
        rw [show min 64 (n - 64 * (n / 64)) = n % 64 by omega]
        rcases h with h | h
        · omega
        · rw [Nat.div_eq_zero_iff] at h
          rcases h with h | h
          · have := Nat.two_pow_pos (n % 64); omega
          · exact h
    · rw [List.getElem?_eq_none (by rw [wordsOf_len, bitsOf_len]; omega), List.getElem?_eq_none (by omega)]

/-- Which pairs of a number and words are bit vectors. -/
def okB (N : Int) (L : List Nat) : Bool := decide (0 ≤ N ∧ N ≤ 5000 ∧ L.length = (N.toNat + 63) / 64) && tailB N.toNat L

end Go.Proofs.YtoehgcakfblblaaDoor

/- More plain mathematics of bit vectors. -/
namespace Go.Proofs.YtoehgcakfblblaaDoor

/-- What BitAt is to return. -/
def bitAtV (N : Int) (L : List Nat) (i : Int) : Int := if okB N L = true ∧ 0 ≤ i ∧ i < N then (bitN L i.toNat : Int) else -1

theorem okB_nat {N : Int} {L : List Nat} (h : okB N L = true) : ∃ n : Nat, N = n ∧ n ≤ 5000 ∧ L.length = (n + 63) / 64 ∧ tailB n L = true := by
  unfold okB at h
  rw [Bool.and_eq_true, decide_eq_true_iff] at h
  obtain ⟨⟨h0, h1, h2⟩, h3⟩ := h
  exact ⟨N.toNat, by omega, by omega, h2, h3⟩

end Go.Proofs.YtoehgcakfblblaaDoor

/- Plain mathematics of counting the bits 1 of a word by parallel sums. -/
namespace Go.Proofs.YtoehgcakfblblaaDoor

/-- How many of the last n binary digits are 1. -/
def popN : Nat → Nat → Nat
  | 0, _ => 0
  | n + 1, x => x % 2 + popN n (x / 2)

theorem popN_add (n k x : Nat) : popN (n + k) x = popN n x + popN k (x / 2 ^ n) := by
  induction n generalizing x with
  | zero => simp [popN]
  | succ n ih =>
    rw [show n + 1 + k = (n + k) + 1 by omega]
    simp only [popN]
    rw [ih, Nat.div_div_eq_div_mul, Nat.pow_succ, Nat.mul_comm 2, Nat.add_assoc]
theorem popN_mod (n x : Nat) : popN n (x % 2 ^ n) = popN n x := by
  induction n generalizing x with
  | zero => rfl
  | succ n ih =>
    simp only [popN]
    rw [Nat.pow_succ, Nat.mul_comm, Nat.mod_mul_right_mod, Nat.mod_mul_right_div_self, ih]
theorem popN_le (n x : Nat) : popN n x ≤ n := by
  induction n generalizing x with
  | zero => exact Nat.le_refl _
  | succ n ih =>
    have := ih (x / 2)
    have h2 := Nat.mod_lt x (show 0 < 2 by omega)
    simp only [popN]
    omega

/-- A function of a byte, byte by byte. -/
def bw (g : Nat → Nat) : Nat → Nat → Nat
  | 0, _ => 0
  | n + 1, x => g (x % 256) + 256 * bw g n (x / 256)
def mask (m : Nat) : Nat → Nat
  | 0 => 0
  | n + 1 => m + 256 * mask m n

theorem and_byte (a b : Nat) : a &&& b = (a % 256 &&& b % 256) + 256 * (a / 256 &&& b / 256) := by
  have h1 : (a &&& b) % 2 ^ 8 = (a % 2 ^ 8) &&& (b % 2 ^ 8) := Nat.and_mod_two_pow
  have h2 : (a &&& b) / 2 ^ 8 = (a / 2 ^ 8) &&& (b / 2 ^ 8) := Nat.and_div_two_pow
  have h3 := Nat.div_add_mod (a &&& b) (2 ^ 8)
  rw [h1, h2] at h3
  simp only [show (2 : Nat) ^ 8 = 256 from rfl] at h3
  omega
theorem and_small (y m k : Nat) (hm : m < 2 ^ k) : y &&& m = (y % 2 ^ k) &&& m := by
  have h1 : (y &&& m) % 2 ^ k = (y % 2 ^ k) &&& (m % 2 ^ k) := Nat.and_mod_two_pow
  rw [Nat.mod_eq_of_lt hm, Nat.mod_eq_of_lt (Nat.and_lt_two_pow _ hm)] at h1
  exact h1

theorem shift_and (s m : Nat) (hs : s ≤ 8) (hm : m < 2 ^ (8 - s)) : ∀ n x, (x / 2 ^ s) &&& mask m n = bw (fun b => (b / 2 ^ s) &&& m) n x
  | 0, x => by simp [mask, bw]
  | n + 1, x => by
    have hm8 : m < 256 := Nat.lt_of_lt_of_le hm (show 2 ^ (8 - s) ≤ 2 ^ 8 from Nat.pow_le_pow_right (by omega) (by omega))
    have hp : 2 ^ s * 2 ^ (8 - s) = 256 := by rw [← Nat.pow_add, show s + (8 - s) = 8 by omega]
    have e1 : (m + 256 * mask m n) % 256 = m := by rw [Nat.add_mul_mod_self_left, Nat.mod_eq_of_lt hm8]
    have e2 : (m + 256 * mask m n) / 256 = mask m n := by omega
    have e3 : x / 2 ^ s / 256 = x / 256 / 2 ^ s := by rw [Nat.div_div_eq_div_mul, Nat.div_div_eq_div_mul, Nat.mul_comm]
    have e4 : x / 2 ^ s % 256 &&& m = (x % 256 / 2 ^ s) &&& m := by
      rw [and_small (x / 2 ^ s % 256) m _ hm, and_small (x % 256 / 2 ^ s) m _ hm]
      congr 1
      rw [← hp, Nat.mod_mul_right_div_self, Nat.mod_mod, Nat.mul_comm, Nat.mod_mul_right_mod]
    simp only [mask, bw]
    rw [and_byte, e1, e2, e3, e4, shift_and s m hs hm n]

theorem bw_add (g h : Nat → Nat) : ∀ n x, bw g n x + bw h n x = bw (fun b => g b + h b) n x
  | 0, x => rfl
  | n + 1, x => by
    have := bw_add g h n (x / 256)
    simp only [bw]
    omega
theorem bw_bw (g f : Nat → Nat) (hf : ∀ b, b < 256 → f b < 256) : ∀ n x, bw g n (bw f n x) = bw (fun b => g (f b)) n x
  | 0, x => rfl
  | n + 1, x => by
    have h1 := hf (x % 256) (Nat.mod_lt _ (by omega))
    simp only [bw]
    rw [Nat.add_mul_mod_self_left, Nat.mod_eq_of_lt h1, Nat.add_mul_div_left _ _ (by omega), Nat.div_eq_of_lt h1, Nat.zero_add, bw_bw g f hf n]
theorem bw_lt (g : Nat → Nat) (c : Nat) (hg : ∀ b, b < 256 → g b ≤ c) : ∀ n x, bw g n x ≤ mask c n
  | 0, x => Nat.le_refl _
  | n + 1, x => by
    have h1 := hg (x % 256) (Nat.mod_lt _ (by omega))
    have h2 := bw_lt g c hg n (x / 256)
    simp only [bw, mask]
    omega
theorem bw_congr (g h : Nat → Nat) (hh : ∀ b, b < 256 → g b = h b) : ∀ n x, bw g n x = bw h n x
  | 0, x => rfl
  | n + 1, x => by simp only [bw]; rw [hh _ (Nat.mod_lt _ (by omega)), bw_congr g h hh n]

theorem bw_low (f : Nat → Nat) (hf : ∀ b, b < 256 → f b % 16 ≤ 4 ∧ f b / 16 ≤ 4) (n x : Nat) : bw f n x % 16 ≤ 4 := by
  cases n with
  | zero => simp [bw]
  | succ n =>
    have h1 := hf (x % 256) (Nat.mod_lt _ (by omega))
    simp only [bw]
    omega
/-- The third step: the two halves of each byte are added, where they are at most 4. -/
theorem halves (f : Nat → Nat) (hf : ∀ b, b < 256 → f b % 16 ≤ 4 ∧ f b / 16 ≤ 4) : ∀ n x, (bw f n x / 16 + bw f n x) &&& mask 15 n = bw (fun b => f b % 16 + f b / 16) n x
  | 0, x => by simp [mask, bw]
  | n + 1, x => by
    have h1 := hf (x % 256) (Nat.mod_lt _ (by omega))
    have ih := halves f hf n (x / 256)
    have hlow := bw_low f hf n (x / 256)
    simp only [bw, mask]
    generalize f (x % 256) = b at *
    generalize bw f n (x / 256) = y at *
    have hs : (b + 256 * y) / 16 + (b + 256 * y) = (b + b / 16 + 16 * (y % 16)) + 256 * (y / 16 + y) := by omega
    have hl : b + b / 16 + 16 * (y % 16) < 256 := by omega
    rw [hs, and_byte, Nat.add_mul_mod_self_left, Nat.mod_eq_of_lt hl, Nat.add_mul_div_left _ _ (by omega), Nat.div_eq_of_lt hl, Nat.zero_add, Nat.add_mul_mod_self_left, show 15 % 256 = 15 from rfl, show (15 + 256 * mask 15 n) / 256 = mask 15 n by omega, ih]
    have h15 : (b + b / 16 + 16 * (y % 16)) &&& 15 = (b + b / 16 + 16 * (y % 16)) % 16 := Nat.and_two_pow_sub_one_eq_mod _ 4
    rw [h15]
    omega

def g1 (b : Nat) : Nat := (b / 2 ^ 1 &&& 85) + (b / 2 ^ 0 &&& 85)
def g2 (b : Nat) : Nat := (b / 2 ^ 2 &&& 51) + (b / 2 ^ 0 &&& 51)

theorem g1_lt : ∀ b, b < 256 → g1 b < 256 := by decide +kernel
theorem g1_le : ∀ b, b < 256 → g1 b ≤ 170 := by decide +kernel
theorem g2_ok : ∀ b, b < 256 → g2 (g1 b) % 16 ≤ 4 ∧ g2 (g1 b) / 16 ≤ 4 := by decide +kernel
theorem g2_le : ∀ b, b < 256 → g2 (g1 b) ≤ 68 := by decide +kernel
theorem g_pop : ∀ b, b < 256 → g2 (g1 b) % 16 + g2 (g1 b) / 16 = popN 8 b := by decide +kernel

/-- The parallel sums, as the library writes them. -/
def par1 (x : Nat) : Nat := (x / 2 &&& 6148914691236517205) + (x &&& 6148914691236517205)
def par2 (x : Nat) : Nat := (x / 4 &&& 3689348814741910323) + (x &&& 3689348814741910323)
def par3 (x : Nat) : Nat := (x / 16 + x) &&& 1085102592571150095

theorem par1_eq (x : Nat) : par1 x = bw g1 8 x := by
  have e1 := shift_and 1 85 (by omega) (by decide) 8 x
  have e0 := shift_and 0 85 (by omega) (by decide) 8 x
  rw [Nat.pow_zero, Nat.div_one] at e0
  have hm : mask 85 8 = 6148914691236517205 := by decide +kernel
  rw [hm] at e1 e0
  unfold par1 g1
  rw [← bw_add, ← e1, ← e0]
theorem par2_eq (x : Nat) : par2 x = bw g2 8 x := by
  have e1 := shift_and 2 51 (by omega) (by decide) 8 x
  have e0 := shift_and 0 51 (by omega) (by decide) 8 x
  rw [Nat.pow_zero, Nat.div_one] at e0
  have hm : mask 51 8 = 3689348814741910323 := by decide +kernel
  rw [hm] at e1 e0
  unfold par2 g2
  rw [← bw_add, ← e1, ← e0]
theorem par_pop (x : Nat) : par3 (par2 (par1 x)) = bw (popN 8) 8 x := by
  rw [par1_eq, par2_eq, bw_bw g2 g1 g1_lt]
  have h := halves (fun b => g2 (g1 b)) g2_ok 8 x
  have hm : mask 15 8 = 1085102592571150095 := by decide +kernel
  rw [hm] at h
  unfold par3
  rw [h]
  exact bw_congr _ _ g_pop 8 x
theorem par1_le (x : Nat) : par1 x ≤ 12297829382473034410 := by
  rw [par1_eq]
  exact Nat.le_trans (bw_lt g1 170 g1_le 8 x) (by decide +kernel)
theorem par2_le (x : Nat) : par2 (par1 x) ≤ 4919131752989213764 := by
  rw [par1_eq, par2_eq, bw_bw g2 g1 g1_lt]
  exact Nat.le_trans (bw_lt _ 68 g2_le 8 x) (by decide +kernel)
theorem par3_le (x : Nat) : par3 (par2 (par1 x)) ≤ 578721382704613384 := by
  rw [par_pop]
  exact Nat.le_trans (bw_lt _ 8 (fun b _ => popN_le 8 b) 8 x) (by decide +kernel)

/-- The last sums: the bytes, each at most 8, are added up in the lowest one. -/
def up8 (x : Nat) : Nat := x + x / 256
def up16 (x : Nat) : Nat := x + x / 65536
def up32 (x : Nat) : Nat := x + x / 4294967296

theorem sums (p0 p1 p2 p3 p4 p5 p6 p7 : Nat) (h0 : p0 ≤ 8) (h1 : p1 ≤ 8) (h2 : p2 ≤ 8) (h3 : p3 ≤ 8) (h4 : p4 ≤ 8) (h5 : p5 ≤ 8) (h6 : p6 ≤ 8) (h7 : p7 ≤ 8) :
    up32 (up16 (up8 (p0 + 256 * (p1 + 256 * (p2 + 256 * (p3 + 256 * (p4 + 256 * (p5 + 256 * (p6 + 256 * (p7 + 256 * 0)))))))))) % 128 = p0 + p1 + p2 + p3 + p4 + p5 + p6 + p7 := by
  have e1 : up8 (p0 + 256 * (p1 + 256 * (p2 + 256 * (p3 + 256 * (p4 + 256 * (p5 + 256 * (p6 + 256 * (p7 + 256 * 0)))))))) = (p0 + p1) + 256 * ((p1 + p2) + 256 * ((p2 + p3) + 256 * ((p3 + p4) + 256 * ((p4 + p5) + 256 * ((p5 + p6) + 256 * ((p6 + p7) + 256 * p7)))))) := by
    unfold up8; omega
  have e2 : up16 (up8 (p0 + 256 * (p1 + 256 * (p2 + 256 * (p3 + 256 * (p4 + 256 * (p5 + 256 * (p6 + 256 * (p7 + 256 * 0))))))))) = (p0 + p1 + p2 + p3) + 256 * ((p1 + p2 + p3 + p4) + 256 * ((p2 + p3 + p4 + p5) + 256 * ((p3 + p4 + p5 + p6) + 256 * ((p4 + p5 + p6 + p7) + 256 * ((p5 + p6 + p7) + 256 * ((p6 + p7) + 256 * p7)))))) := by
    rw [e1]; unfold up16; omega
  rw [e2]
  unfold up32
  obtain ⟨Y, hY⟩ : ∃ Y, Y = (p5 + p6 + p7) + 256 * ((p6 + p7) + 256 * p7) := ⟨_, rfl⟩
  rw [← hY]
  clear hY e1 e2
  have e3 : (p0 + p1 + p2 + p3 + 256 * (p1 + p2 + p3 + p4 + 256 * (p2 + p3 + p4 + p5 + 256 * (p3 + p4 + p5 + p6 + 256 * (p4 + p5 + p6 + p7 + 256 * Y))))) / 4294967296 = p4 + p5 + p6 + p7 + 256 * Y := by omega
  rw [e3]
  omega

theorem pop_bytes (x : Nat) : bw (popN 8) 8 x = popN 8 (x % 256) + 256 * (popN 8 (x / 256 % 256) + 256 * (popN 8 (x / 256 / 256 % 256) + 256 * (popN 8 (x / 256 / 256 / 256 % 256) + 256 * (popN 8 (x / 256 / 256 / 256 / 256 % 256) + 256 * (popN 8 (x / 256 / 256 / 256 / 256 / 256 % 256) + 256 * (popN 8 (x / 256 / 256 / 256 / 256 / 256 / 256 % 256) + 256 * (popN 8 (x / 256 / 256 / 256 / 256 / 256 / 256 / 256 % 256) + 256 * 0))))))) := rfl

theorem pop_split (k x : Nat) : popN (8 + k) x = popN 8 (x % 256) + popN k (x / 256) := by
  rw [popN_add]
  have := popN_mod 8 x
  rw [show (2 : Nat) ^ 8 = 256 from rfl] at this ⊢
  rw [this]

theorem ones_count (x : Nat) : up32 (up16 (up8 (par3 (par2 (par1 x))))) % 128 = popN 64 x := by
  rw [par_pop, pop_bytes, sums _ _ _ _ _ _ _ _ (popN_le _ _) (popN_le _ _) (popN_le _ _) (popN_le _ _) (popN_le _ _) (popN_le _ _) (popN_le _ _) (popN_le _ _)]
  rw [show 64 = 8 + 56 from rfl, pop_split 56, show 56 = 8 + 48 from rfl, pop_split 48, show 48 = 8 + 40 from rfl, pop_split 40, show 40 = 8 + 32 from rfl, pop_split 32, show 32 = 8 + 24 from rfl, pop_split 24, show 24 = 8 + 16 from rfl, pop_split 16, show 16 = 8 + 8 from rfl, pop_split 8, show popN 8 (x / 256 / 256 / 256 / 256 / 256 / 256 / 256) = popN 8 (x / 256 / 256 / 256 / 256 / 256 / 256 / 256 % 256) from (popN_mod 8 _).symm]
  omega

end Go.Proofs.YtoehgcakfblblaaDoor

/- Counting bits. -/
namespace Go.Proofs.YtoehgcakfblblaaDoor

/-- How many of the first k bits are b. -/
def cnt (L : List Nat) (b : Int) : Nat → Nat
  | 0 => 0
  | k + 1 => cnt L b k + if (bitN L k : Int) = b then 1 else 0
theorem cnt_yes (L : List Nat) (b : Int) (k : Nat) (h : (bitN L k : Int) = b) : cnt L b (k + 1) = cnt L b k + 1 := by rw [cnt, if_pos h]
theorem cnt_no (L : List Nat) (b : Int) (k : Nat) (h : ¬ (bitN L k : Int) = b) : cnt L b (k + 1) = cnt L b k := by rw [cnt, if_neg h, Nat.add_zero]
theorem cnt_le (L : List Nat) (b : Int) (k : Nat) : cnt L b k ≤ k := by
  induction k with
  | zero => exact Nat.le_refl _
  | succ k ih =>
    rw [cnt]
    split <;> omega
theorem cnt_sum (L : List Nat) (k : Nat) : cnt L 0 k + cnt L 1 k = k := by
  induction k with
  | zero => rfl
  | succ k ih =>
    have h := bitN_lt L k
    rw [cnt, cnt]
    by_cases h0 : bitN L k = 0
    · rw [if_pos (by omega), if_neg (by omega)]
      omega
    · rw [if_neg (by omega), if_pos (by omega)]
      omega

theorem popN_succ (r x : Nat) : popN (r + 1) x = popN r x + x / 2 ^ r % 2 := by
  rw [popN_add r 1 x]
  simp [popN]

/-- How many bits 1 the first q words have. -/
def popL (L : List Nat) : Nat → Nat
  | 0 => 0
  | q + 1 => popL L q + popN 64 (L[q]?.getD 0)

theorem cnt_word (L : List Nat) (q : Nat) : ∀ r, r ≤ 64 → cnt L 1 (64 * q + r) = cnt L 1 (64 * q) + popN r (L[q]?.getD 0)
  | 0, _ => rfl
  | r + 1, h => by
    rw [← Nat.add_assoc, popN_succ, ← Nat.add_assoc, ← cnt_word L q r (by omega)]
    have e : bitN L (64 * q + r) = L[q]?.getD 0 / 2 ^ r % 2 := by
      unfold bitN
      rw [show (64 * q + r) / 64 = q by omega, show (64 * q + r) % 64 = r by omega]
      try simp
    have h2 := bitN_lt L (64 * q + r)
    rw [← e, cnt]
    by_cases h1 : bitN L (64 * q + r) = 1
    · rw [if_pos (by omega), h1]
    · rw [if_neg (by omega)]
      omega
theorem cnt_pop (L : List Nat) (q : Nat) : cnt L 1 (64 * q) = popL L q := by
  induction q with
  | zero => rfl
  | succ q ih => rw [Nat.mul_succ, cnt_word L q 64 (Nat.le_refl _), ih, popL]
theorem popL_le (L : List Nat) (q : Nat) : popL L q ≤ 64 * q := by
  rw [← cnt_pop]
  exact cnt_le _ _ _

/-- What Rank is to return. -/
def rankV (N : Int) (L : List Nat) (b i : Int) : Int := if okB N L = true ∧ (b = 0 ∨ b = 1) ∧ 0 ≤ i ∧ i ≤ N then (cnt L b i.toNat : Int) else -1

end Go.Proofs.YtoehgcakfblblaaDoor

/- Plain mathematics of the k-th bit 1 of a word, and of the k-th bit of a list of words. -/
namespace Go.Proofs.YtoehgcakfblblaaDoor

/-- The odd part of a number. -/
theorem odd_part : ∀ (n x : Nat), 0 < x → x < 2 ^ n → ∃ i q, i < n ∧ x = 2 ^ (i + 1) * q + 2 ^ i
  | 0, x, h0, h => by simp at h; omega
  | n + 1, x, h0, h => by
    by_cases h2 : x % 2 = 1
    · exact ⟨0, x / 2, by omega, by simp; omega⟩
    · obtain ⟨i, q, hi, e⟩ := odd_part n (x / 2) (by omega) (by rw [Nat.pow_succ] at h; omega)
      refine ⟨i + 1, q, by omega, ?_⟩
      have e2 : x = 2 * (x / 2) := by omega
      rw [e2, e, Nat.mul_add, ← Nat.mul_assoc]
      rw [Nat.pow_succ 2 (i + 1), Nat.mul_comm (2 ^ (i + 1)) 2, Nat.pow_succ 2 i, Nat.mul_comm (2 ^ i) 2]

theorem and_parts (k a b a' b' : Nat) (hb : b < 2 ^ k) (hb' : b' < 2 ^ k) : (2 ^ k * a + b) &&& (2 ^ k * a' + b') = 2 ^ k * (a &&& a') + (b &&& b') := by
  have hbb : b &&& b' < 2 ^ k := Nat.lt_of_le_of_lt Nat.and_le_left hb
  apply Nat.eq_of_testBit_eq
  intro j
  rw [Nat.testBit_and, Nat.testBit_two_pow_mul_add _ hb, Nat.testBit_two_pow_mul_add _ hb', Nat.testBit_two_pow_mul_add _ hbb]
  by_cases hj : j < k
  · rw [if_pos hj, if_pos hj, if_pos hj, Nat.testBit_and]
  · rw [if_neg hj, if_neg hj, if_neg hj, Nat.testBit_and]

theorem and_pred (i q : Nat) : (2 ^ (i + 1) * q + 2 ^ i) &&& (2 ^ (i + 1) * q + 2 ^ i - 1) = 2 ^ (i + 1) * q := by
  have hp := Nat.two_pow_pos i
  have h2 : 2 ^ (i + 1) = 2 * 2 ^ i := by rw [Nat.pow_succ, Nat.mul_comm]
  rw [show 2 ^ (i + 1) * q + 2 ^ i - 1 = 2 ^ (i + 1) * q + (2 ^ i - 1) by omega, and_parts _ _ _ _ _ (by omega) (by omega), Nat.and_self, Nat.and_two_pow_sub_one_eq_mod, Nat.mod_self, Nat.add_zero]

theorem and_compl (m q : Nat) (h : q < 2 ^ m) : q &&& (2 ^ m - 1 - q) = 0 := by
  apply Nat.eq_of_testBit_eq
  intro j
  rw [show 2 ^ m - 1 - q = 2 ^ m - (q + 1) by omega, Nat.testBit_and, Nat.testBit_two_pow_sub_succ h, Nat.zero_testBit]
  cases q.testBit j <;> simp

theorem and_neg (n i q : Nat) (hi : i < n) (h : 2 ^ (i + 1) * q + 2 ^ i < 2 ^ n) : (2 ^ (i + 1) * q + 2 ^ i) &&& (2 ^ n - (2 ^ (i + 1) * q + 2 ^ i)) = 2 ^ i := by
  have hp := Nat.two_pow_pos i
  have h2 : 2 ^ (i + 1) = 2 * 2 ^ i := by rw [Nat.pow_succ, Nat.mul_comm]
  obtain ⟨m, rfl⟩ : ∃ m, n = i + 1 + m := ⟨n - (i + 1), by omega⟩
  have hn : 2 ^ (i + 1 + m) = 2 ^ (i + 1) * 2 ^ m := Nat.pow_add _ _ _
  have hq : q < 2 ^ m := by
    rw [hn] at h
    exact Nat.lt_of_mul_lt_mul_left (a := 2 ^ (i + 1)) (by omega)
  obtain ⟨r, hr⟩ : ∃ r, 2 ^ m = q + 1 + r := ⟨2 ^ m - (q + 1), by omega⟩
  have e : 2 ^ (i + 1 + m) - (2 ^ (i + 1) * q + 2 ^ i) = 2 ^ (i + 1) * r + 2 ^ i := by
    rw [hn, hr, Nat.mul_add, Nat.mul_add, Nat.mul_one]
    omega
  have hr2 : r = 2 ^ m - 1 - q := by omega
  rw [e, and_parts _ _ _ _ _ (by omega) (by omega), hr2, and_compl m q hq, Nat.mul_zero, Nat.zero_add, Nat.and_self]

/-- What is left of a word after its first k bits 1 have been cleared: those from p on. -/
def Cleared (x k y : Nat) : Prop := ∃ p, y = x / 2 ^ p * 2 ^ p ∧ popN p x = k

theorem cleared_zero (x : Nat) : Cleared x 0 x := ⟨0, by simp, rfl⟩

theorem popN_mul (d z : Nat) : popN d (2 ^ d * z) = 0 := by
  rw [← popN_mod, Nat.mul_mod_right]
  induction d with
  | zero => rfl
  | succ d ih => rw [popN, ih]

theorem cleared_low {x k y i q : Nat} (h : Cleared x k y) (hy : y = 2 ^ (i + 1) * q + 2 ^ i) : popN i x = k ∧ x / 2 ^ i % 2 = 1 ∧ Cleared x (k + 1) (2 ^ (i + 1) * q) := by
  obtain ⟨p, hp, hk⟩ := h
  have hi0 := Nat.two_pow_pos i
  have h2 : 2 ^ (i + 1) = 2 ^ i * 2 := Nat.pow_succ _ _
  have hy2 : y = 2 ^ i * (2 * q + 1) := by rw [hy, h2, Nat.mul_add, Nat.mul_one, Nat.mul_assoc]
  have hpi : p ≤ i := by
    rcases Nat.lt_or_ge i p with hlt | hge
    · exfalso
      obtain ⟨d, rfl⟩ : ∃ d, p = i + 1 + d := ⟨p - (i + 1), by omega⟩
      have e : 2 ^ i * (2 * q + 1) = 2 ^ i * (2 * (x / 2 ^ (i + 1 + d) * 2 ^ d)) := by
        rw [← hy2, hp, Nat.pow_add, h2]
        simp only [Nat.mul_comm, Nat.mul_left_comm, Nat.mul_assoc]
      have := Nat.eq_of_mul_eq_mul_left hi0 e
      omega
    · exact hge
  obtain ⟨d, rfl⟩ : ∃ d, i = p + d := ⟨i - p, by omega⟩
  have hp0 := Nat.two_pow_pos p
  have hd0 := Nat.two_pow_pos d
  have hx : x / 2 ^ p = 2 ^ d * (2 * q + 1) := by
    have : 2 ^ p * (x / 2 ^ p) = 2 ^ p * (2 ^ d * (2 * q + 1)) := by rw [Nat.mul_comm (2 ^ p), ← hp, hy2, Nat.pow_add, Nat.mul_assoc]
    exact Nat.eq_of_mul_eq_mul_left hp0 this
  have hxi : x / 2 ^ (p + d) = 2 * q + 1 := by
    rw [Nat.pow_add, ← Nat.div_div_eq_div_mul, hx, Nat.mul_div_cancel_left _ hd0]
  have hpop : popN (p + d) x = k := by rw [popN_add, hk, hx, popN_mul, Nat.add_zero]
  refine ⟨hpop, by rw [hxi]; omega, p + d + 1, ?_, ?_⟩
  · rw [Nat.pow_succ, ← Nat.div_div_eq_div_mul, hxi, show (2 * q + 1) / 2 = q by omega, Nat.mul_comm]
  · rw [popN_succ, hpop, hxi]
    omega

theorem cleared_some {x k y n : Nat} (h : Cleared x k y) (hx : x < 2 ^ n) (hk : k < popN n x) : 0 < y ∧ y < 2 ^ n := by
  obtain ⟨p, hp, hk2⟩ := h
  have hle : y ≤ x := by rw [hp]; exact Nat.div_mul_le_self _ _
  refine ⟨?_, by omega⟩
  rcases Nat.eq_zero_or_pos y with h0 | h0
  · exfalso
    rw [h0] at hp
    have hz : x / 2 ^ p = 0 := by
      rcases Nat.mul_eq_zero.1 hp.symm with h | h
      · exact h
      · have := Nat.two_pow_pos p
        omega
    have e1 : popN n x ≤ popN (n + p) x := by rw [popN_add]; omega
    rw [Nat.add_comm n p, popN_add, hz, hk2] at e1
    have e2 : popN n 0 = 0 := by have := popN_mul n 0; rwa [Nat.mul_zero] at this
    omega
  · exact h0

/-- Where the k-th of the first n bits that are b stands. -/
def selN (L : List Nat) (b : Int) (n k : Nat) : Option Nat := (List.range n).find? fun i => decide ((bitN L i : Int) = b ∧ cnt L b i = k)

theorem cnt_mono (L : List Nat) (b : Int) (i : Nat) : ∀ d, cnt L b i ≤ cnt L b (i + d)
  | 0 => Nat.le_refl _
  | d + 1 => by
    have := cnt_mono L b i d
    rw [← Nat.add_assoc, cnt]
    omega

theorem selN_some (L : List Nat) (b : Int) (n k i : Nat) (hi : i < n) (hb : (bitN L i : Int) = b) (hc : cnt L b i = k) : selN L b n k = some i := by
  unfold selN
  rw [List.find?_range_eq_some]
  refine ⟨by simp [hb, hc], by simpa using hi, fun j hj => ?_⟩
  simp only [Bool.not_eq_true', decide_eq_false_iff_not]
  rintro ⟨h1, h2⟩
  have e1 := cnt_yes L b j h1
  obtain ⟨d, rfl⟩ : ∃ d, i = j + 1 + d := ⟨i - (j + 1), by omega⟩
  have := cnt_mono L b (j + 1) d
  omega

theorem selN_none (L : List Nat) (b : Int) (n k : Nat) (h : cnt L b n ≤ k) : selN L b n k = none := by
  unfold selN
  rw [List.find?_eq_none]
  intro i hi
  have hi' : i < n := by simpa using hi
  simp only [decide_eq_true_eq]
  rintro ⟨h1, h2⟩
  have e1 := cnt_yes L b i h1
  obtain ⟨d, rfl⟩ : ∃ d, n = i + 1 + d := ⟨n - (i + 1), by omega⟩
  have := cnt_mono L b (i + 1) d
  omega

/-- What Select is to return. -/
def selV (N : Int) (L : List Nat) (b k : Int) : Int := if okB N L = true ∧ (b = 0 ∨ b = 1) ∧ 0 ≤ k then (match selN L b N.toNat k.toNat with | some i => (i : Int) | none => -1) else -1

end Go.Proofs.YtoehgcakfblblaaDoor

/- Plain mathematics of the wavelet matrix: a list of levels, each the words of n bits; the numbers that they hold, where an index leads, and what is counted. Nothing of the program and nothing of the model stands here. -/
namespace Go.Proofs.YtoehgcakfblblaaDoor

theorem cnt_mono' (L : List Nat) (b : Int) {i j : Nat} (h : i ≤ j) : cnt L b i ≤ cnt L b j := by
  obtain ⟨d, rfl⟩ : ∃ d, j = i + d := ⟨j - i, by omega⟩
  exact cnt_mono L b i d

/-- Where an index with the bit b leads. -/
def dn (n : Nat) (L : List Nat) (b i : Nat) : Nat := b * cnt L 0 n + cnt L (b : Int) i
theorem dn_mono (n : Nat) (L : List Nat) (b : Nat) {i j : Nat} (h : i ≤ j) : dn n L b i ≤ dn n L b j := Nat.add_le_add_left (cnt_mono' L b h) _
theorem dn_yes (n : Nat) (L : List Nat) (b i : Nat) (h : bitN L i = b) : dn n L b (i + 1) = dn n L b i + 1 := by
  unfold dn
  rw [cnt_yes L b i (by rw [h]), Nat.add_assoc]
theorem dn_no (n : Nat) (L : List Nat) (b i : Nat) (h : bitN L i ≠ b) : dn n L b (i + 1) = dn n L b i := by
  unfold dn
  rw [cnt_no L b i (by omega)]
theorem dn_le (n : Nat) (L : List Nat) (b i : Nat) (hb : b < 2) (hi : i ≤ n) : dn n L b i ≤ n := by
  have h1 := cnt_sum L n
  have h2 := cnt_mono' L (b : Int) hi
  unfold dn
  rcases (show b = 0 ∨ b = 1 by omega) with rfl | rfl
  · rw [Nat.zero_mul, Nat.zero_add]
    rw [show ((0 : Nat) : Int) = 0 from rfl] at h2 ⊢
    omega
  · rw [Nat.one_mul]
    rw [show ((1 : Nat) : Int) = 1 from rfl] at h2 ⊢
    omega
theorem dn_lt (n : Nat) (L : List Nat) (i : Nat) (hi : i < n) : dn n L (bitN L i) i < n := by
  have h1 := dn_le n L (bitN L i) (i + 1) (bitN_lt L i) hi
  rw [dn_yes n L _ i rfl] at h1
  omega

/-- The number with index i. -/
def numW (n : Nat) : List (List Nat) → Nat → Nat
  | [], _ => 0
  | L :: Ls, i => bitN L i * 2 ^ Ls.length + numW n Ls (dn n L (bitN L i) i)
theorem numW_lt (n : Nat) : ∀ (Ls : List (List Nat)) (i : Nat), numW n Ls i < 2 ^ Ls.length
  | [], _ => by simp [numW]
  | L :: Ls, i => by
    have h1 := numW_lt n Ls (dn n L (bitN L i) i)
    have h2 := bitN_lt L i
    rw [numW, List.length_cons, Nat.pow_succ]
    rcases (show bitN L i = 0 ∨ bitN L i = 1 by omega) with h | h
    · rw [h] at h1 ⊢; omega
    · rw [h] at h1 ⊢; omega
/-- The list. -/
def listW (n : Nat) (Ls : List (List Nat)) : List Int := (List.range n).map fun i => (numW n Ls i : Int)
theorem listW_len (n : Nat) (Ls : List (List Nat)) : (listW n Ls).length = n := by simp [listW]
theorem listW_get (n : Nat) (Ls : List (List Nat)) (i : Nat) (h : i < n) : (listW n Ls)[i]? = some (numW n Ls i : Int) := by simp [listW, h]

/-- How many of the indices below i have P. -/
def cp (P : Nat → Bool) : Nat → Nat
  | 0 => 0
  | i + 1 => cp P i + if P i = true then 1 else 0
theorem cp_le (P : Nat → Bool) (i : Nat) : cp P i ≤ i := by
  induction i with
  | zero => exact Nat.le_refl _
  | succ i ih => rw [cp]; split <;> omega
theorem cp_mono (P : Nat → Bool) {i j : Nat} (h : i ≤ j) : cp P i ≤ cp P j := by
  induction j with
  | zero =>
    obtain rfl : i = 0 := by omega
    exact Nat.le_refl _
  | succ j ih =>
    rcases Nat.lt_or_ge i (j + 1) with h1 | h1
    · have := ih (by omega)
      rw [cp]
      omega
    · obtain rfl : i = j + 1 := by omega
      exact Nat.le_refl _
theorem cp_congr {P Q : Nat → Bool} {i : Nat} (h : ∀ j, j < i → P j = Q j) : cp P i = cp Q i := by
  induction i with
  | zero => rfl
  | succ i ih => rw [cp, cp, ih fun j hj => h j (by omega), h i (by omega)]
theorem cp_none {P : Nat → Bool} {i : Nat} (h : ∀ j, j < i → P j = false) : cp P i = 0 := by
  induction i with
  | zero => rfl
  | succ i ih => rw [cp, ih fun j hj => h j (by omega), h i (by omega)]; rfl
theorem cp_all {P : Nat → Bool} {i : Nat} (h : ∀ j, j < i → P j = true) : cp P i = i := by
  induction i with
  | zero => rfl
  | succ i ih => rw [cp, ih fun j hj => h j (by omega), h i (by omega)]; rfl
theorem cp_or {P Q : Nat → Bool} (h : ∀ j, P j = true → Q j = true → False) (i : Nat) : cp (fun j => P j || Q j) i = cp P i + cp Q i := by
  induction i with
  | zero => rfl
  | succ i ih =>
    rw [cp, cp, cp, ih]
    have := h i
    cases hp : P i <;> cases hq : Q i
    · simp
    · simp; omega
    · simp; omega
    · exact (h i hp hq).elim
theorem cp_bit (L : List Nat) (b : Nat) (i : Nat) : cp (fun j => decide (bitN L j = b)) i = cnt L (b : Int) i := by
  induction i with
  | zero => rfl
  | succ i ih =>
    rw [cp, cnt, ih]
    by_cases h : bitN L i = b
    · rw [if_pos (by simp [h]), if_pos (by omega)]
    · rw [if_neg (by simp [h]), if_neg (by omega)]
/-- Those with the bit b lead, in order, to a stretch of the next level. -/
theorem cp_down (n : Nat) (L : List Nat) (b : Nat) (P : Nat → Bool) (i : Nat) :
    cp (fun j => decide (bitN L j = b) && P (dn n L (bitN L j) j)) i + cp P (dn n L b 0) = cp P (dn n L b i) := by
  induction i with
  | zero => rw [cp, Nat.zero_add]
  | succ i ih =>
    rw [cp]
    by_cases h : bitN L i = b
    · rw [dn_yes n L b i h, cp, ← ih, h]
      simp only [decide_true, Bool.true_and]
      omega
    · rw [dn_no n L b i h, ← ih, decide_eq_false h]
      simp
theorem cp_down' (n : Nat) (L : List Nat) (b : Nat) (P : Nat → Bool) (lo hi : Nat) :
    cp (fun j => decide (bitN L j = b) && P (dn n L (bitN L j) j)) hi + cp P (dn n L b lo) = cp (fun j => decide (bitN L j = b) && P (dn n L (bitN L j) j)) lo + cp P (dn n L b hi) := by
  have h1 := cp_down n L b P lo
  have h2 := cp_down n L b P hi
  omega

/-- Where an index leads by the bits of x. -/
def plW (n : Nat) : List (List Nat) → Nat → Nat → Nat
  | [], _, i => i
  | L :: Ls, x, i => plW n Ls x (dn n L (x / 2 ^ Ls.length % 2) i)
theorem plW_le (n : Nat) : ∀ (Ls : List (List Nat)) (x i : Nat), i ≤ n → plW n Ls x i ≤ n
  | [], _, _, h => h
  | L :: Ls, x, i, h => plW_le n Ls x _ (dn_le n L _ i (Nat.mod_lt _ (by omega)) h)

theorem two_split (m x : Nat) : x % 2 ^ (m + 1) = x / 2 ^ m % 2 * 2 ^ m + x % 2 ^ m := by
  rw [Nat.pow_succ, Nat.mod_mul, Nat.mul_comm (2 ^ m)]
  omega
theorem digit_eq {m b b' r r' : Nat} (h : r < 2 ^ m) (h' : r' < 2 ^ m) : b * 2 ^ m + r = b' * 2 ^ m + r' ↔ b = b' ∧ r = r' := by
  constructor
  · intro e
    have e1 := congrArg (· / 2 ^ m) e
    have e2 := congrArg (· % 2 ^ m) e
    have hp := Nat.two_pow_pos m
    rw [Nat.mul_comm b, Nat.mul_comm b', Nat.mul_add_div hp, Nat.mul_add_div hp, Nat.div_eq_of_lt h, Nat.div_eq_of_lt h'] at e1
    rw [Nat.mul_comm b, Nat.mul_comm b', Nat.mul_add_mod, Nat.mul_add_mod, Nat.mod_eq_of_lt h, Nat.mod_eq_of_lt h'] at e2
    exact ⟨by omega, e2⟩
  · rintro ⟨rfl, rfl⟩
    rfl
theorem digit_lt {m b b' r r' : Nat} (h : r < 2 ^ m) (h' : r' < 2 ^ m) : b * 2 ^ m + r < b' * 2 ^ m + r' ↔ b < b' ∨ (b = b' ∧ r < r') := by
  rcases Nat.lt_trichotomy b b' with hb | rfl | hb
  · have : (b + 1) * 2 ^ m ≤ b' * 2 ^ m := Nat.mul_le_mul_right _ hb
    rw [Nat.add_mul, Nat.one_mul] at this
    constructor
    · intro _; exact .inl hb
    · intro _; omega
  · constructor
    · intro e; exact .inr ⟨rfl, by omega⟩
    · rintro (e | ⟨_, e⟩) <;> omega
  · have : (b' + 1) * 2 ^ m ≤ b * 2 ^ m := Nat.mul_le_mul_right _ hb
    rw [Nat.add_mul, Nat.one_mul] at this
    constructor
    · intro e; omega
    · rintro (e | ⟨e, _⟩) <;> omega

/-- How often x occurs among the first i. -/
theorem rank_place (n : Nat) : ∀ (Ls : List (List Nat)) (x i : Nat), cp (fun j => decide (numW n Ls j = x % 2 ^ Ls.length)) i + plW n Ls x 0 = plW n Ls x i
  | [], x, i => by
    rw [cp_all (by intro j _; simp [numW, Nat.mod_one])]
    rfl
  | L :: Ls, x, i => by
    have h1 := cp_down n L (x / 2 ^ Ls.length % 2) (fun j => decide (numW n Ls j = x % 2 ^ Ls.length)) i
    have h2 := rank_place n Ls x (dn n L (x / 2 ^ Ls.length % 2) i)
    have h3 := rank_place n Ls x (dn n L (x / 2 ^ Ls.length % 2) 0)
    have e : cp (fun j => decide (numW n (L :: Ls) j = x % 2 ^ (L :: Ls).length)) i = cp (fun j => decide (bitN L j = x / 2 ^ Ls.length % 2) && decide (numW n Ls (dn n L (bitN L j) j) = x % 2 ^ Ls.length)) i := by
      apply cp_congr
      intro j _
      rw [← Bool.decide_and, numW, List.length_cons, two_split]
      exact decide_eq_decide.2 (digit_eq (numW_lt n Ls _) (Nat.mod_lt _ (Nat.two_pow_pos _)))
    rw [e, plW, plW]
    omega

/-- How many of lo..hi - 1 are less than x. -/
def lessW (n : Nat) : List (List Nat) → Nat → Nat → Nat → Nat
  | [], _, _, _ => 0
  | L :: Ls, x, lo, hi => (if x / 2 ^ Ls.length % 2 = 1 then cnt L 0 hi - cnt L 0 lo else 0) + lessW n Ls x (dn n L (x / 2 ^ Ls.length % 2) lo) (dn n L (x / 2 ^ Ls.length % 2) hi)
theorem less_count (n : Nat) : ∀ (Ls : List (List Nat)) (x lo hi : Nat), lo ≤ hi →
    cp (fun j => decide (numW n Ls j < x % 2 ^ Ls.length)) lo + lessW n Ls x lo hi = cp (fun j => decide (numW n Ls j < x % 2 ^ Ls.length)) hi
  | [], x, lo, hi, _ => by
    rw [cp_none (by intro j _; simp [Nat.mod_one]), cp_none (by intro j _; simp [Nat.mod_one])]
    rfl
  | L :: Ls, x, lo, hi, hle => by
    have hlt : ∀ j, decide (numW n (L :: Ls) j < x % 2 ^ (L :: Ls).length) = (decide (bitN L j < x / 2 ^ Ls.length % 2) || (decide (bitN L j = x / 2 ^ Ls.length % 2) && decide (numW n Ls (dn n L (bitN L j) j) < x % 2 ^ Ls.length))) := by
      intro j
      rw [← Bool.decide_and, ← Bool.decide_or, numW, List.length_cons, two_split]
      exact decide_eq_decide.2 (digit_lt (numW_lt n Ls _) (Nat.mod_lt _ (Nat.two_pow_pos _)))
    have e : ∀ i, cp (fun j => decide (numW n (L :: Ls) j < x % 2 ^ (L :: Ls).length)) i = cp (fun j => decide (bitN L j < x / 2 ^ Ls.length % 2)) i + cp (fun j => decide (bitN L j = x / 2 ^ Ls.length % 2) && decide (numW n Ls (dn n L (bitN L j) j) < x % 2 ^ Ls.length)) i := by
      intro i
      rw [← cp_or (by intro j h1 h2; simp at h1 h2; omega)]
      exact cp_congr fun j _ => hlt j
    have h1 := cp_down' n L (x / 2 ^ Ls.length % 2) (fun j => decide (numW n Ls j < x % 2 ^ Ls.length)) lo hi
    have h2 := less_count n Ls x _ _ (dn_mono n L (x / 2 ^ Ls.length % 2) hle)
    have h3 : cp (fun j => decide (bitN L j < x / 2 ^ Ls.length % 2)) hi = cp (fun j => decide (bitN L j < x / 2 ^ Ls.length % 2)) lo + (if x / 2 ^ Ls.length % 2 = 1 then cnt L 0 hi - cnt L 0 lo else 0) := by
      split
      · rename_i h
        rw [h]
        have e0 : ∀ i, cp (fun j => decide (bitN L j < 1)) i = cnt L 0 i := fun i => by
          rw [← show cnt L ((0 : Nat) : Int) i = cnt L 0 i from rfl, ← cp_bit L 0 i]
          exact cp_congr fun j _ => by rw [decide_eq_decide]; omega
        have := cnt_mono' L 0 hle
        rw [e0, e0]
        omega
      · rename_i h
        have h0 : x / 2 ^ Ls.length % 2 = 0 := by omega
        rw [h0, cp_none (by intro j _; simp), cp_none (by intro j _; simp)]
    rw [e, e, lessW]
    omega

/-- The k-th smallest of lo..hi - 1. -/
def kthW (n : Nat) : List (List Nat) → Nat → Nat → Nat → Nat
  | [], _, _, _ => 0
  | L :: Ls, lo, hi, k => if k < cnt L 0 hi - cnt L 0 lo then kthW n Ls (dn n L 0 lo) (dn n L 0 hi) k else 2 ^ Ls.length + kthW n Ls (dn n L 1 lo) (dn n L 1 hi) (k - (cnt L 0 hi - cnt L 0 lo))
/-- What it means: at most k are less, more than k are at most as great. -/
structure Kth (n : Nat) (Ls : List (List Nat)) (lo hi k x : Nat) : Prop where
  lt : x < 2 ^ Ls.length
  less : cp (fun j => decide (numW n Ls j < x)) hi ≤ cp (fun j => decide (numW n Ls j < x)) lo + k
  upto : cp (fun j => decide (numW n Ls j < x + 1)) lo + k < cp (fun j => decide (numW n Ls j < x + 1)) hi
theorem kth_is (n : Nat) : ∀ (Ls : List (List Nat)) (lo hi k : Nat), lo + k < hi → Kth n Ls lo hi k (kthW n Ls lo hi k)
  | [], lo, hi, k, h => by
    refine ⟨by simp [kthW], ?_, ?_⟩
    · rw [cp_none (by intro j _; simp [kthW]), cp_none (by intro j _; simp [kthW])]
      omega
    · rw [cp_all (by intro j _; simp [kthW, numW]), cp_all (by intro j _; simp [kthW, numW])]
      exact h
  | L :: Ls, lo, hi, k, h => by
    have hle : lo ≤ hi := by omega
    have hm := cnt_mono' L 0 hle
    have d0 : ∀ i, dn n L 0 i = cnt L 0 i := fun i => by unfold dn; rw [Nat.zero_mul, Nat.zero_add]; rfl
    have d1 : ∀ i, dn n L 1 i = cnt L 0 n + cnt L 1 i := fun i => by unfold dn; rw [Nat.one_mul]; rfl
    have hs := cnt_sum L lo
    have hs' := cnt_sum L hi
    have two := fun j => bitN_lt L j
    have hz := fun j => numW_lt n Ls (dn n L (bitN L j) j)
    rw [kthW]
    split
    · rename_i hk
      obtain ⟨g1, g2, g3⟩ := kth_is n Ls (dn n L 0 lo) (dn n L 0 hi) k (by rw [d0, d0]; omega)
      generalize kthW n Ls (dn n L 0 lo) (dn n L 0 hi) k = x at *
      have key : ∀ y, y ≤ 2 ^ Ls.length → ∀ i, cp (fun j => decide (numW n (L :: Ls) j < y)) i = cp (fun j => decide (bitN L j = 0) && decide (numW n Ls (dn n L (bitN L j) j) < y)) i := by
        intro y hy i
        apply cp_congr
        intro j _
        rw [← Bool.decide_and, numW]
        refine decide_eq_decide.2 ?_
        have := two j
        rcases (show bitN L j = 0 ∨ bitN L j = 1 by omega) with hb | hb
        · rw [hb]; omega
        · rw [hb]; omega
      have c1 := cp_down' n L 0 (fun j => decide (numW n Ls j < x)) lo hi
      have c2 := cp_down' n L 0 (fun j => decide (numW n Ls j < x + 1)) lo hi
      refine ⟨by rw [List.length_cons, Nat.pow_succ]; omega, ?_, ?_⟩
      · rw [key x (by omega), key x (by omega)]
        omega
      · rw [key (x + 1) (by omega), key (x + 1) (by omega)]
        omega
    · rename_i hk
      obtain ⟨g1, g2, g3⟩ := kth_is n Ls (dn n L 1 lo) (dn n L 1 hi) (k - (cnt L 0 hi - cnt L 0 lo)) (by rw [d1, d1]; omega)
      generalize kthW n Ls (dn n L 1 lo) (dn n L 1 hi) (k - (cnt L 0 hi - cnt L 0 lo)) = x at *
      have key : ∀ y i, cp (fun j => decide (numW n (L :: Ls) j < 2 ^ Ls.length + y)) i = cnt L 0 i + cp (fun j => decide (bitN L j = 1) && decide (numW n Ls (dn n L (bitN L j) j) < y)) i := by
        intro y i
        rw [← show cnt L ((0 : Nat) : Int) i = cnt L 0 i from rfl, ← cp_bit L 0 i, ← cp_or (by intro j h1 h2; simp at h1 h2; omega)]
        apply cp_congr
        intro j _
        rw [← Bool.decide_and, ← Bool.decide_or, numW]
        refine decide_eq_decide.2 ?_
        have := two j
        have h5 := hz j
        rcases (show bitN L j = 0 ∨ bitN L j = 1 by omega) with hb | hb
        · rw [hb] at h5 ⊢; omega
        · rw [hb] at h5 ⊢; omega
      have c1 := cp_down' n L 1 (fun j => decide (numW n Ls j < x)) lo hi
      have c2 := cp_down' n L 1 (fun j => decide (numW n Ls j < x + 1)) lo hi
      refine ⟨by rw [List.length_cons, Nat.pow_succ]; omega, ?_, ?_⟩
      · rw [key, key]
        omega
      · rw [Nat.add_assoc, key, key]
        omega

/-- The path of an index whose number is x, from the first level to the place behind the last. -/
theorem path_of (n : Nat) : ∀ (Ls : List (List Nat)) (x i : Nat), i < n → numW n Ls i = x % 2 ^ Ls.length →
    ∃ J : Nat → Nat, J 0 = i ∧ J Ls.length = plW n Ls x i ∧ (∀ k, J k < n) ∧ ∀ k L, Ls[k]? = some L → bitN L (J k) = x / 2 ^ (Ls.length - 1 - k) % 2 ∧ J (k + 1) = dn n L (x / 2 ^ (Ls.length - 1 - k) % 2) (J k)
  | [], x, i, hi, _ => ⟨fun _ => i, rfl, rfl, fun _ => hi, fun k L h => by simp at h⟩
  | L :: Ls, x, i, hi, h => by
    rw [numW, List.length_cons, two_split] at h
    obtain ⟨hb, hr⟩ := (digit_eq (numW_lt n Ls _) (Nat.mod_lt _ (Nat.two_pow_pos _))).1 h
    obtain ⟨J, h1, h2, h3, h4⟩ := path_of n Ls x _ (dn_lt n L i hi) hr
    refine ⟨fun k => match k with | 0 => i | k + 1 => J k, rfl, ?_, ?_, ?_⟩
    · rw [List.length_cons, plW, ← hb]
      exact h2
    · intro k
      match k with
      | 0 => exact hi
      | k + 1 => exact h3 k
    · intro k M hk
      match k with
      | 0 =>
        obtain rfl : L = M := by simpa using hk
        simp only [List.length_cons, Nat.add_sub_cancel, Nat.sub_zero]
        exact ⟨hb, by rw [h1, hb]⟩
      | k + 1 =>
        have := h4 k M (by simpa using hk)
        simp only [List.length_cons]
        rw [show Ls.length + 1 - 1 - (k + 1) = Ls.length - 1 - k by omega]
        exact this

end Go.Proofs.YtoehgcakfblblaaDoor

/- Plain mathematics: the levels of a list of numbers, and that the numbers are read from them again. Nothing of the program and nothing of the model stands here. -/
namespace Go.Proofs.YtoehgcakfblblaaDoor

theorem wv_val (B : List Int) (hB : IsBits B) (i : Nat) (b : Int) (h : B[i]? = some b) : val B / 2 ^ i % 2 = b.toNat := by
  obtain ⟨hi, hb⟩ := List.getElem?_eq_some_iff.1 h
  have e1 : val B = val (B.take i) + 2 ^ i * val (B.drop i) := by
    conv => lhs; rw [← List.take_append_drop i B]
    rw [val_append, List.length_take, Nat.min_eq_left (by omega)]
  have h1 : val (B.take i) < 2 ^ i := by
    have := val_lt _ (hB.take i)
    rwa [List.length_take, Nat.min_eq_left (by omega)] at this
  rw [e1, Nat.add_mul_div_left _ _ (Nat.two_pow_pos _), Nat.div_eq_of_lt h1, Nat.zero_add, List.drop_eq_getElem_cons hi, hb, val]
  have := hB b (List.mem_of_getElem? h)
  omega
theorem wv_bit (B : List Int) (hB : IsBits B) (i : Nat) (b : Int) (h : B[i]? = some b) : (bitN (wordsOf B) i : Int) = b := by
  have hi := (List.getElem?_eq_some_iff.1 h).1
  have h2 : ((B.drop (64 * (i / 64))).take 64)[i % 64]? = some b := by
    rw [List.getElem?_take, if_pos (by omega), List.getElem?_drop, show 64 * (i / 64) + i % 64 = i by omega, h]
  unfold bitN
  rw [List.getD_eq_getElem?_getD, wordsOf_get B (i / 64) (by omega), Option.getD_some, wv_val _ ((hB.drop _).take _) _ b h2]
  have := hB b (List.mem_of_getElem? h)
  omega
theorem wv_ok (n : Nat) (B : List Int) (hB : IsBits B) (hl : B.length = n) (hn : n ≤ 5000) : okB n (wordsOf B) = true := by
  subst hl
  have e : bitsOf B.length (wordsOf B) = B := by
    apply List.ext_getElem?
    intro i
    by_cases hi : i < B.length
    · obtain ⟨b, hb⟩ : ∃ b, B[i]? = some b := ⟨_, List.getElem?_eq_getElem hi⟩
      rw [bitsOf_get _ _ _ hi, hb, wv_bit B hB i b hb]
    · rw [List.getElem?_eq_none (by rw [bitsOf_len]; omega), List.getElem?_eq_none (by omega)]
  unfold okB
  rw [Int.toNat_natCast, (words_back B.length (wordsOf B) (wordsOf_len B) (wordsOf_lt B hB)).1 (by rw [e]), decide_eq_true ⟨by omega, by omega, wordsOf_len B⟩]
  rfl
theorem wv_cnt (B : List Int) (hB : IsBits B) (b : Int) : ∀ i, i ≤ B.length → cnt (wordsOf B) b i = (B.take i).count b
  | 0, _ => by simp [cnt]
  | i + 1, h => by
    obtain ⟨y, hy⟩ : ∃ y, B[i]? = some y := ⟨_, List.getElem?_eq_getElem (by omega)⟩
    rw [cnt, wv_cnt B hB b i (by omega), wv_bit B hB i y hy, List.take_add_one, hy, Option.toList_some, List.count_append, List.count_singleton]
    by_cases e : y = b <;> simp [e]

/-- The bit with the value 2 ^ m of a number. -/
def wb (m : Nat) (x : Int) : Int := x / 2 ^ m % 2
theorem wb_01 (m : Nat) (x : Int) : wb m x = 0 ∨ wb m x = 1 := by unfold wb; omega
def wlow (m : Nat) (X : List Int) : List Int := X.filter fun x => decide (wb m x = 0)
def whigh (m : Nat) (X : List Int) : List Int := X.filter fun x => decide (wb m x ≠ 0)
/-- The list reordered by a bit. -/
def wre (m : Nat) (X : List Int) : List Int := wlow m X ++ whigh m X
/-- The list as it is reordered ahead of a level. -/
def wX (X : List Int) : Nat → List Int
  | 0 => X
  | k + 1 => wre (8 - k) (wX X k)
/-- The bits of a level. -/
def wrow (X : List Int) (k : Nat) : List Int := (wX X k).map (wb (8 - k))
def wlev (X : List Int) : List (List Nat) := (List.range 9).map fun k => wordsOf (wrow X k)
def wzer (X : List Int) : List Int := (List.range 9).map fun k => ((wlow (8 - k) (wX X k)).length : Int)

theorem low_high (m : Nat) (X : List Int) : (wlow m X).length + (whigh m X).length = X.length := by
  unfold wlow whigh
  induction X with
  | nil => rfl
  | cons x r ih =>
    rw [List.filter_cons, List.filter_cons]
    by_cases h : wb m x = 0
    · rw [if_pos (by simpa using h), if_neg (by simpa using h)]
      simp only [List.length_cons]
      omega
    · rw [if_neg (by simpa using h), if_pos (by simpa using h)]
      simp only [List.length_cons]
      omega
theorem wre_len (m : Nat) (X : List Int) : (wre m X).length = X.length := by
  rw [wre, List.length_append, low_high]
theorem wX_len (X : List Int) : ∀ k, (wX X k).length = X.length
  | 0 => rfl
  | k + 1 => by rw [wX, wre_len, wX_len X k]
theorem wre_mem {m : Nat} {X : List Int} {x : Int} (h : x ∈ wre m X) : x ∈ X := by
  rcases List.mem_append.1 h with h | h
  · exact (List.mem_filter.1 h).1
  · exact (List.mem_filter.1 h).1
theorem wX_mem {X : List Int} : ∀ {k : Nat} {x : Int}, x ∈ wX X k → x ∈ X
  | 0, _, h => h
  | _ + 1, _, h => wX_mem (wre_mem h)
theorem wrow_len (X : List Int) (k : Nat) : (wrow X k).length = X.length := by rw [wrow, List.length_map, wX_len]
theorem wrow_bits (X : List Int) (k : Nat) : IsBits (wrow X k) := by
  intro b hb
  obtain ⟨x, _, rfl⟩ := List.mem_map.1 hb
  exact wb_01 _ _
theorem wlev_len (X : List Int) : (wlev X).length = 9 := by simp [wlev]
theorem wzer_len (X : List Int) : (wzer X).length = 9 := by simp [wzer]
theorem wlev_get (X : List Int) (k : Nat) (h : k < 9) : (wlev X)[k]? = some (wordsOf (wrow X k)) := by simp [wlev, h]
theorem wzer_get (X : List Int) (k : Nat) (h : k < 9) : (wzer X)[k]? = some ((wlow (8 - k) (wX X k)).length : Int) := by simp [wzer, h]

theorem low_count (m : Nat) (X : List Int) : (wlow m X).length = (X.map (wb m)).count 0 := by
  unfold wlow
  rw [← List.countP_eq_length_filter, List.count_eq_countP, List.countP_map]
  congr 1
theorem zer_cnt (X : List Int) (k : Nat) : (wlow (8 - k) (wX X k)).length = cnt (wordsOf (wrow X k)) 0 X.length := by
  rw [wv_cnt _ (wrow_bits X k) 0 _ (by rw [wrow_len]; exact Nat.le_refl _), List.take_of_length_le (by rw [wrow_len]; exact Nat.le_refl _), low_count]
  rfl

theorem filter_at (p : Int → Bool) (X : List Int) : ∀ (i : Nat) (x : Int), X[i]? = some x → p x = true → (X.filter p)[(X.take i).countP p]? = some x := by
  induction X with
  | nil => intro i x h; simp at h
  | cons y r ih =>
    intro i x h hp
    match i with
    | 0 =>
      obtain rfl : y = x := by simpa using h
      rw [List.filter_cons, if_pos hp]
      simp
    | i + 1 =>
      have h2 := ih i x (by simpa using h) hp
      rw [List.filter_cons, List.take_succ_cons, List.countP_cons]
      cases hy : p y
      · rw [if_neg (by simp), if_neg (by simp), Nat.add_zero]
        exact h2
      · rw [if_pos rfl, if_pos rfl, List.getElem?_cons_succ]
        exact h2
/-- Where a number stands in the reordered list. -/
theorem re_at (X : List Int) (k i : Nat) (x : Int) (h : (wX X k)[i]? = some x) : (wX X (k + 1))[dn X.length (wordsOf (wrow X k)) (bitN (wordsOf (wrow X k)) i) i]? = some x := by
  have hi : i < X.length := by
    have := (List.getElem?_eq_some_iff.1 h).1
    rwa [wX_len] at this
  have hr : (wrow X k)[i]? = some (wb (8 - k) x) := by rw [wrow, List.getElem?_map, h]; rfl
  have hb := wv_bit _ (wrow_bits X k) i _ hr
  have hc : ∀ b, cnt (wordsOf (wrow X k)) b i = ((wX X k).take i).countP (fun y => decide (wb (8 - k) y = b)) := fun b => by
    rw [wv_cnt _ (wrow_bits X k) b i (by rw [wrow_len]; omega), wrow, ← List.map_take, List.count_eq_countP, List.countP_map]
    congr 1
  unfold dn
  rw [hb, hc, wX, wre, ← zer_cnt]
  rcases wb_01 (8 - k) x with h0 | h0
  · rw [h0, show bitN (wordsOf (wrow X k)) i = 0 by omega, Nat.zero_mul, Nat.zero_add]
    have := filter_at (fun y => decide (wb (8 - k) y = 0)) _ i x h (by simpa using h0)
    rw [List.getElem?_append_left]
    · exact this
    · exact (List.getElem?_eq_some_iff.1 this).1
  · rw [h0, show bitN (wordsOf (wrow X k)) i = 1 by omega, Nat.one_mul]
    have := filter_at (fun y => decide (wb (8 - k) y ≠ 0)) _ i x h (by simp; omega)
    rw [List.getElem?_append_right (by omega), Nat.add_sub_cancel_left]
    rw [← this, whigh]
    congr 1
    apply List.countP_congr
    intro y _
    have := wb_01 (8 - k) y
    simp
    omega

theorem num_of (X : List Int) (hX : ∀ x ∈ X, 0 ≤ x) : ∀ d k, k + d = 9 → ∀ (i : Nat) (x : Int), (wX X k)[i]? = some x → (numW X.length ((wlev X).drop k) i : Int) = x % 2 ^ d
  | 0, k, hk, i, x, _ => by
    rw [List.drop_eq_nil_of_le (by rw [wlev_len]; omega), numW]
    simp [Int.emod_one]
  | d + 1, k, hk, i, x, h => by
    have hk9 : k < (wlev X).length := by rw [wlev_len]; omega
    have hg := wlev_get X k (by omega)
    have e1 : (wlev X)[k] = wordsOf (wrow X k) := by rw [List.getElem?_eq_getElem hk9] at hg; exact Option.some.inj hg
    have ih := num_of X hX d (k + 1) (by omega) _ x (re_at X k i x h)
    have hr : (wrow X k)[i]? = some (wb (8 - k) x) := by rw [wrow, List.getElem?_map, h]; rfl
    have hb := wv_bit _ (wrow_bits X k) i _ hr
    have hx := hX x (wX_mem (List.mem_of_getElem? h))
    rw [List.drop_eq_getElem_cons hk9, e1, numW, List.length_drop, wlev_len, show 9 - (k + 1) = d by omega, Int.natCast_add, ih, Int.natCast_mul, hb, wb, show 8 - k = d by omega]
    obtain ⟨a, rfl⟩ := Int.eq_ofNat_of_zero_le hx
    have e := two_split d a
    have c : ((2 ^ d : Nat) : Int) = 2 ^ d := by simp
    rw [c, ← show ((a % 2 ^ (d + 1) : Nat) : Int) = (a : Int) % 2 ^ (d + 1) by simp, e]
    simp
/-- The numbers are read again. -/
theorem list_back (X : List Int) (hX : ∀ x ∈ X, 0 ≤ x ∧ x ≤ 511) : listW X.length (wlev X) = X := by
  apply List.ext_getElem?
  intro i
  by_cases hi : i < X.length
  · obtain ⟨x, hx⟩ : ∃ x, X[i]? = some x := ⟨_, List.getElem?_eq_getElem hi⟩
    have := num_of X (fun x h => (hX x h).1) 9 0 rfl i x hx
    rw [List.drop_zero] at this
    have h2 := hX x (List.mem_of_getElem? hx)
    rw [listW_get _ _ _ hi, hx, this, Int.emod_eq_of_lt h2.1 (by omega)]
  · rw [List.getElem?_eq_none (by rw [listW_len]; omega), List.getElem?_eq_none (by omega)]

end Go.Proofs.YtoehgcakfblblaaDoor
