import Init
/- Plain mathematics of bit vectors: the bits of a list of words, the words of a list of bits. Nothing of the program and nothing of the model stands here. -/
namespace Go.Proofs.YtlbnngolcoefdaaDoor

/-- Bit i of a list of words. -/
def bitN (L : List Nat) (i : Nat) : Nat := L.getD (i / 64) 0 / 2 ^ (i % 64) % 2
/-- The first n bits of a list of words. -/
def bitsOf (n : Nat) (L : List Nat) : List Int := (List.range n).map fun i => (bitN L i : Int)
/-- The number whose binary digits, the least first, are a list. -/
def val : List Int → Nat
  | [] => 0
  | b :: bs => b.toNat + 2 * val bs
/-- The words of a list of bits. -/
def wordsOf (B : List Int) : List Nat := (List.range ((B.length + 63) / 64)).map fun j => val ((B.drop (64 * j)).take 64)
def IsBits (B : List Int) : Prop := ∀ b ∈ B, b = 0 ∨ b = 1

theorem bitN_lt (L : List Nat) (i : Nat) : bitN L i < 2 := Nat.mod_lt _ (by omega)
theorem bitsOf_len (n : Nat) (L : List Nat) : (bitsOf n L).length = n := by simp [bitsOf]
theorem bitsOf_get (n : Nat) (L : List Nat) (i : Nat) (h : i < n) : (bitsOf n L)[i]? = some (bitN L i : Int) := by simp [bitsOf, h]
theorem bitsOf_take (n k : Nat) (L : List Nat) (h : k ≤ n) : (bitsOf n L).take k = bitsOf k L := by
  apply List.ext_getElem?
  intro i
  rw [List.getElem?_take]
  by_cases hi : i < k
  · rw [if_pos hi, bitsOf_get _ _ _ (by omega), bitsOf_get _ _ _ hi]
  · rw [if_neg hi]
    simp [bitsOf, hi]
theorem bitsOf_succ (n : Nat) (L : List Nat) : bitsOf (n + 1) L = bitsOf n L ++ [(bitN L n : Int)] := by simp [bitsOf, List.range_succ]
theorem bitsOf_bits (n : Nat) (L : List Nat) : IsBits (bitsOf n L) := by
  intro b hb
  simp only [bitsOf, List.mem_map] at hb
  obtain ⟨i, _, rfl⟩ := hb
  have := bitN_lt L i
  omega

theorem val_append (xs ys : List Int) : val (xs ++ ys) = val xs + 2 ^ xs.length * val ys := by
  induction xs with
  | nil => simp [val]
  | cons b bs ih =>
    simp only [List.cons_append, val, ih, List.length_cons, Nat.pow_succ]
    rw [Nat.mul_add, Nat.mul_comm (2 ^ bs.length) 2, Nat.mul_assoc, Nat.add_assoc]
theorem val_lt (xs : List Int) (h : IsBits xs) : val xs < 2 ^ xs.length := by
  induction xs with
  | nil => simp [val]
  | cons b bs ih =>
    have h1 := ih fun b hb => h b (List.mem_cons_of_mem _ hb)
    have h2 := h b (List.mem_cons_self ..)
    simp only [val, List.length_cons, Nat.pow_succ]
    omega
theorem val_digits (x m : Nat) : val ((List.range m).map fun i => ((x / 2 ^ i % 2 : Nat) : Int)) = x % 2 ^ m := by
  induction m with
  | zero => simp [val, Nat.mod_one]
  | succ m ih =>
    rw [List.range_succ, List.map_append, val_append, ih]
    simp only [List.map_cons, List.map_nil, val, List.length_map, List.length_range, Int.toNat_natCast, Nat.mul_zero, Nat.add_zero]
    rw [Nat.pow_succ, Nat.mod_mul]

theorem wordsOf_len (B : List Int) : (wordsOf B).length = (B.length + 63) / 64 := by simp [wordsOf]
theorem wordsOf_get (B : List Int) (j : Nat) (h : j < (B.length + 63) / 64) : (wordsOf B)[j]? = some (val ((B.drop (64 * j)).take 64)) := by simp [wordsOf, h]
theorem wordsOf_nil : wordsOf [] = [] := by simp [wordsOf]

theorem IsBits.sub {B C : List Int} (h : IsBits B) (hs : ∀ b ∈ C, b ∈ B) : IsBits C := fun b hb => h b (hs b hb)
theorem IsBits.take {B : List Int} (h : IsBits B) (n : Nat) : IsBits (B.take n) := h.sub fun _ hb => List.mem_of_mem_take hb
theorem IsBits.drop {B : List Int} (h : IsBits B) (n : Nat) : IsBits (B.drop n) := h.sub fun _ hb => List.mem_of_mem_drop hb

theorem wordsOf_lt (B : List Int) (h : IsBits B) : ∀ x ∈ wordsOf B, x < 2 ^ 64 := by
  intro x hx
  simp only [wordsOf, List.mem_map] at hx
  obtain ⟨j, _, rfl⟩ := hx
  have h1 := val_lt _ ((h.drop (64 * j)).take 64)
  have h2 : ((B.drop (64 * j)).take 64).length ≤ 64 := List.length_take_le _ _
  exact Nat.lt_of_lt_of_le h1 (Nat.pow_le_pow_right (by omega) h2)

/-- The words once a bit more is there: a new word where one begins. -/
theorem wordsOf_snoc0 (B : List Int) (b : Int) (h : B.length % 64 = 0) : wordsOf (B ++ [b]) = wordsOf B ++ [b.toNat] := by
  have e : (B.length + 1 + 63) / 64 = (B.length + 63) / 64 + 1 := by omega
  have e2 : (B.length + 63) / 64 = B.length / 64 := by omega
  unfold wordsOf
  rw [List.length_append, List.length_singleton, e, List.range_succ, List.map_append]
  congr 1
  · apply List.map_congr_left
    intro j hj
    rw [List.mem_range, e2] at hj
    rw [List.drop_append_of_le_length (by omega), List.take_append_of_le_length (by rw [List.length_drop]; omega)]
  · simp only [List.map_cons, List.map_nil]
    rw [e2, show 64 * (B.length / 64) = B.length by omega, List.drop_left]
    simp [val]
/-- .. and the last word's next digit where none begins. -/
theorem wordsOf_snoc (B : List Int) (b : Int) (h : B.length % 64 ≠ 0) :
    wordsOf (B ++ [b]) = (wordsOf B).set (B.length / 64) ((wordsOf B).getD (B.length / 64) 0 + 2 ^ (B.length % 64) * b.toNat) := by
  have e : (B.length + 1 + 63) / 64 = (B.length + 63) / 64 := by omega
  have hl : B.length / 64 < (B.length + 63) / 64 := by omega
  apply List.ext_getElem?
  intro j
  rw [List.getElem?_set]
  by_cases hj : j < (B.length + 63) / 64
  · rw [wordsOf_get _ _ (by rw [List.length_append, List.length_singleton, e]; exact hj)]
    by_cases hjl : B.length / 64 = j
    · subst hjl
      rw [if_pos rfl, if_pos (by rw [wordsOf_len]; exact hl)]
      have hd : ((B.drop (64 * (B.length / 64))).length) = B.length % 64 := by rw [List.length_drop]; omega
      rw [List.drop_append_of_le_length (by omega), List.take_of_length_le (by rw [List.length_append, hd]; simp; omega), val_append, hd]
      rw [List.getD_eq_getElem?_getD, wordsOf_get _ _ hl, Option.getD_some, List.take_of_length_le (by omega)]
      simp [val]
    · rw [if_neg hjl, wordsOf_get _ _ hj]
      rw [List.drop_append_of_le_length (by omega), List.take_append_of_le_length (by rw [List.length_drop]; omega)]
  · rw [if_neg (by omega)]
    rw [List.getElem?_eq_none (by rw [wordsOf_len, List.length_append, List.length_singleton]; omega), List.getElem?_eq_none (by rw [wordsOf_len]; omega)]

/-- The words of the first n bits of a list of words: each word, its last one cut. -/
theorem wordsOf_bitsOf_get (n : Nat) (L : List Nat) (j : Nat) (h : j < (n + 63) / 64) :
    (wordsOf (bitsOf n L))[j]? = some (L.getD j 0 % 2 ^ (min 64 (n - 64 * j))) := by
  rw [wordsOf_get _ _ (by rw [bitsOf_len]; exact h)]
  congr 1
  rw [← val_digits]
  congr 1
  apply List.ext_getElem?
  intro i
  rw [List.getElem?_take, List.getElem?_drop]
  by_cases hi : i < min 64 (n - 64 * j)
  · rw [if_pos (by omega), bitsOf_get _ _ _ (by omega)]
    have e1 : (64 * j + i) / 64 = j := by omega
    have e2 : (64 * j + i) % 64 = i := by omega
    simp [bitN, e1, e2, hi]
  · have hr : ((List.range (min 64 (n - 64 * j))).map fun i => ((L.getD j 0 / 2 ^ i % 2 : Nat) : Int))[i]? = none := List.getElem?_eq_none (by rw [List.length_map, List.length_range]; omega)
    rw [hr]
    by_cases h64 : i < 64
    · rw [if_pos h64, List.getElem?_eq_none (by rw [bitsOf_len]; omega)]
    · rw [if_neg h64]

/-- The bits after the last one are 0: by the word, as the program asks it. -/
def tailB (n : Nat) (L : List Nat) : Bool := n % 64 == 0 || L.getD (n / 64) 0 / 2 ^ (n % 64) == 0
theorem words_back (n : Nat) (L : List Nat) (hl : L.length = (n + 63) / 64) (hw : ∀ x ∈ L, x < 2 ^ 64) : wordsOf (bitsOf n L) = L ↔ tailB n L = true := by
  have hget : ∀ j, j < L.length → L[j]? = some (L.getD j 0) := fun j hj => by
    rw [List.getD_eq_getElem?_getD, List.getElem?_eq_getElem hj, Option.getD_some]
  have hlt : ∀ j, j < L.length → L.getD j 0 < 2 ^ 64 := fun j hj => by
    rw [List.getD_eq_getElem?_getD, List.getElem?_eq_getElem hj, Option.getD_some]
    exact hw _ (List.getElem_mem hj)
  unfold tailB
  rw [Bool.or_eq_true, beq_iff_eq, beq_iff_eq]
  constructor
  · intro h
    by_cases h0 : n % 64 = 0
    · exact .inl h0
    · right
      have h1 := wordsOf_bitsOf_get n L (n / 64) (by omega)
      rw [h, hget _ (by omega)] at h1
      have h2 := Option.some.inj h1
      rw [show min 64 (n - 64 * (n / 64)) = n % 64 by omega] at h2
      rw [Nat.div_eq_zero_iff]
      right
      rw [h2]
      exact Nat.mod_lt _ (Nat.two_pow_pos _)
  · intro h
    apply List.ext_getElem?
    intro j
    by_cases hj : j < (n + 63) / 64
    · rw [wordsOf_bitsOf_get _ _ _ hj, hget _ (by omega)]
      congr 1
      apply Nat.mod_eq_of_lt
      have hb := hlt j (by omega)
      by_cases hf : 64 ≤ n - 64 * j
      · rw [Nat.min_eq_left hf]; exact hb
      · have hjn : j = n / 64 := by omega
        subst hjn
        rw [show min 64 (n - 64 * (n / 64)) = n % 64 by omega]
        rcases h with h | h
        · omega
        · rw [Nat.div_eq_zero_iff] at h
          rcases h with h | h
          · have := Nat.two_pow_pos (n % 64); omega
          · exact h
    · rw [List.getElem?_eq_none (by rw [wordsOf_len, bitsOf_len]; omega), List.getElem?_eq_none (by omega)]

/-- Which pairs of a number and words are bit vectors. -/
def okB (N : Int) (L : List Nat) : Bool := decide (0 ≤ N ∧ N ≤ 5000 ∧ L.length = (N.toNat + 63) / 64) && tailB N.toNat L

end Go.Proofs.YtlbnngolcoefdaaDoor

/- Plain mathematics of sparse lists. -/
namespace Go.Proofs.YtlbnngolcoefdaaDoor

/-- Is the list non-decreasing from l on, all below u? -/
def srt (u : Int) : Int → List Int → Bool
  | _, [] => true
  | l, x :: xs => decide (l ≤ x ∧ x < u) && srt u x xs

theorem srt_append (u : Int) : ∀ (a b : List Int) (l : Int), srt u l (a ++ b) = (srt u l a && srt u (a.getLastD l) b)
  | [], b, l => by simp [srt]
  | x :: xs, b, l => by
    rw [List.cons_append, srt, srt, srt_append u xs b x, Bool.and_assoc]
    congr 2
    cases xs <;> simp [List.getLastD]

theorem srt_snoc (u : Int) (a : List Int) (x l : Int) : srt u l (a ++ [x]) = (srt u l a && decide (a.getLastD l ≤ x ∧ x < u)) := by
  rw [srt_append, srt, srt, Bool.and_true]

theorem srt_before {u l : Int} {a z : List Int} (h : a <+: z) (hz : srt u l z = true) : srt u l a = true := by
  obtain ⟨b, rfl⟩ := h
  rw [srt_append, Bool.and_eq_true] at hz
  exact hz.1

theorem srt_get {u : Int} : ∀ {B : List Int} {l : Int}, srt u l B = true → ∀ (i : Nat) (x : Int), B[i]? = some x → l ≤ x ∧ x < u
  | [], _, _, i, x, hx => by simp at hx
  | y :: ys, l, h, i, x, hx => by
    rw [srt, Bool.and_eq_true, decide_eq_true_iff] at h
    cases i with
    | zero =>
      rw [List.getElem?_cons_zero] at hx
      cases hx
      exact h.1
    | succ i =>
      rw [List.getElem?_cons_succ] at hx
      have := srt_get h.2 i x hx
      omega

theorem srt_mono {u : Int} : ∀ {B : List Int} {l : Int}, srt u l B = true → ∀ (i j : Nat) (x y : Int), i ≤ j → B[i]? = some x → B[j]? = some y → x ≤ y
  | [], _, _, i, j, x, y, _, hx, _ => by simp at hx
  | z :: zs, l, h, i, j, x, y, hij, hx, hy => by
    rw [srt, Bool.and_eq_true] at h
    cases i with
    | zero =>
      rw [List.getElem?_cons_zero] at hx
      cases hx
      cases j with
      | zero => rw [List.getElem?_cons_zero] at hy; cases hy; exact Int.le_refl _
      | succ j =>
        rw [List.getElem?_cons_succ] at hy
        exact (srt_get h.2 j y hy).1
    | succ i =>
      cases j with
      | zero => omega
      | succ j =>
        rw [List.getElem?_cons_succ] at hx hy
        exact srt_mono h.2 i j x y (by omega) hx hy

/-- The last of the first k. -/
theorem last_take (B : List Int) (k : Nat) (x l : Int) (h : B[k]? = some x) : (B.take (k + 1)).getLastD l = x := by
  rw [List.take_add_one, h]
  simp [List.getLastD_eq_getLast?]

theorem srt_take (u : Int) (B : List Int) (k : Nat) (x l : Int) (h : B[k]? = some x) : srt u l (B.take (k + 1)) = (srt u l (B.take k) && decide ((B.take k).getLastD l ≤ x ∧ x < u)) := by
  rw [List.take_add_one, h, Option.toList_some, srt_snoc]

/-- The quotient of the number i. -/
def qt (B : List Int) (w i : Nat) : Nat := ((B[i]?.getD 0) / 2 ^ w).toNat

theorem qt_at {B : List Int} {w i : Nat} {x : Int} (h : B[i]? = some x) : qt B w i = (x / 2 ^ w).toNat := by
  unfold qt
  rw [h]
  rfl

/-- The bits of High: m of them, the first k numbers laid. -/
def hb (B : List Int) (w k m : Nat) : List Int := (List.range m).map fun j => if (List.range k).any (fun i => decide (i + qt B w i = j)) then 1 else 0

theorem hb_len (B : List Int) (w k m : Nat) : (hb B w k m).length = m := by simp [hb]

theorem hb_zero (B : List Int) (w m : Nat) : hb B w 0 m = List.replicate m 0 := by
  unfold hb
  simp only [List.range_zero, List.any_nil, Bool.false_eq_true, if_false]
  rw [List.map_const', List.length_range]

theorem hb_bits (B : List Int) (w k m : Nat) : ∀ x ∈ hb B w k m, x = 0 ∨ x = 1 := by
  intro x hx
  unfold hb at hx
  rw [List.mem_map] at hx
  obtain ⟨j, _, rfl⟩ := hx
  split
  · exact .inr rfl
  · exact .inl rfl

theorem any_succ (k : Nat) (p : Nat → Bool) : (List.range (k + 1)).any p = ((List.range k).any p || p k) := by
  rw [List.range_succ, List.any_append]
  simp

theorem hb_one (B : List Int) (w k q : Nat) (h : qt B w k = q) : hb B w (k + 1) (k + q + 1) = hb B w k (k + q) ++ [1] := by
  unfold hb
  rw [List.range_succ (n := k + q), List.map_append]
  congr 1
  · apply List.map_congr_left
    intro j hj
    rw [List.mem_range] at hj
    rw [any_succ, show decide (k + qt B w k = j) = false from decide_eq_false (by omega), Bool.or_false]
  · simp only [List.map_cons, List.map_nil]
    rw [any_succ, show decide (k + qt B w k = k + q) = true from decide_eq_true (by omega), Bool.or_true, if_pos rfl]

theorem hb_nil (B : List Int) (w k q : Nat) (h : ∀ i, i < k → qt B w i ≤ q) : hb B w k (k + q + 1) = hb B w k (k + q) ++ [0] := by
  unfold hb
  rw [List.range_succ (n := k + q), List.map_append]
  congr 1
  simp only [List.map_cons, List.map_nil]
  have h0 : (List.range k).any (fun i => decide (i + qt B w i = k + q)) = false := by
    rw [List.any_eq_false]
    intro i hi
    rw [List.mem_range] at hi
    have := h i hi
    simp only [decide_eq_true_iff]
    omega
  rw [h0]
  rfl

theorem hb_set (B : List Int) (w k m : Nat) : hb B w (k + 1) m = (hb B w k m).set (k + qt B w k) 1 := by
  apply List.ext_getElem?
  intro j
  rw [List.getElem?_set]
  unfold hb
  simp only [List.getElem?_map, List.length_map, List.length_range]
  by_cases hj : j < m
  · rw [List.getElem?_range hj]
    simp only [Option.map_some]
    rw [any_succ]
    by_cases he : k + qt B w k = j
    · rw [decide_eq_true he, Bool.or_true, if_pos rfl, if_pos he, if_pos (by omega)]
    · rw [decide_eq_false he, Bool.or_false, if_neg he]
  · have : (List.range m)[j]? = none := List.getElem?_eq_none (by simp; omega)
    rw [this]
    simp only [Option.map_none]
    by_cases he : k + qt B w k = j
    · rw [if_pos he, if_neg (by omega)]
    · rw [if_neg he]

/-- The low width. -/
def lowN (n u : Nat) (bl : Nat → Nat) : Nat := if n = 0 then 0 else bl (u / n) - 1

end Go.Proofs.YtlbnngolcoefdaaDoor

/- More plain mathematics of bit vectors. -/
namespace Go.Proofs.YtlbnngolcoefdaaDoor

/-- What BitAt is to return. -/
def bitAtV (N : Int) (L : List Nat) (i : Int) : Int := if okB N L = true ∧ 0 ≤ i ∧ i < N then (bitN L i.toNat : Int) else -1

theorem okB_nat {N : Int} {L : List Nat} (h : okB N L = true) : ∃ n : Nat, N = n ∧ n ≤ 5000 ∧ L.length = (n + 63) / 64 ∧ tailB n L = true := by
  unfold okB at h
  rw [Bool.and_eq_true, decide_eq_true_iff] at h
  obtain ⟨⟨h0, h1, h2⟩, h3⟩ := h
  exact ⟨N.toNat, by omega, by omega, h2, h3⟩

end Go.Proofs.YtlbnngolcoefdaaDoor

/- Plain mathematics of counting the bits 1 of a word by parallel sums. -/
namespace Go.Proofs.YtlbnngolcoefdaaDoor

/-- How many of the last n binary digits are 1. -/
def popN : Nat → Nat → Nat
  | 0, _ => 0
  | n + 1, x => x % 2 + popN n (x / 2)

theorem popN_add (n k x : Nat) : popN (n + k) x = popN n x + popN k (x / 2 ^ n) := by
  induction n generalizing x with
  | zero => simp [popN]
  | succ n ih =>
    rw [show n + 1 + k = (n + k) + 1 by omega]
    simp only [popN]
    rw [ih, Nat.div_div_eq_div_mul, Nat.pow_succ, Nat.mul_comm 2, Nat.add_assoc]
theorem popN_mod (n x : Nat) : popN n (x % 2 ^ n) = popN n x := by
  induction n generalizing x with
  | zero => rfl
  | succ n ih =>
    simp only [popN]
    rw [Nat.pow_succ, Nat.mul_comm, Nat.mod_mul_right_mod, Nat.mod_mul_right_div_self, ih]
theorem popN_le (n x : Nat) : popN n x ≤ n := by
  induction n generalizing x with
  | zero => exact Nat.le_refl _
  | succ n ih =>
    have := ih (x / 2)
    have h2 := Nat.mod_lt x (show 0 < 2 by omega)
    simp only [popN]
    omega

/-- A function of a byte, byte by byte. -/
def bw (g : Nat → Nat) : Nat → Nat → Nat
  | 0, _ => 0
  | n + 1, x => g (x % 256) + 256 * bw g n (x / 256)
def mask (m : Nat) : Nat → Nat
  | 0 => 0
  | n + 1 => m + 256 * mask m n

theorem and_byte (a b : Nat) : a &&& b = (a % 256 &&& b % 256) + 256 * (a / 256 &&& b / 256) := by
  have h1 : (a &&& b) % 2 ^ 8 = (a % 2 ^ 8) &&& (b % 2 ^ 8) := Nat.and_mod_two_pow
  have h2 : (a &&& b) / 2 ^ 8 = (a / 2 ^ 8) &&& (b / 2 ^ 8) := Nat.and_div_two_pow
  have h3 := Nat.div_add_mod (a &&& b) (2 ^ 8)
  rw [h1, h2] at h3
  simp only [show (2 : Nat) ^ 8 = 256 from rfl] at h3
  omega
theorem and_small (y m k : Nat) (hm : m < 2 ^ k) : y &&& m = (y % 2 ^ k) &&& m := by
  have h1 : (y &&& m) % 2 ^ k = (y % 2 ^ k) &&& (m % 2 ^ k) := Nat.and_mod_two_pow
  rw [Nat.mod_eq_of_lt hm, Nat.mod_eq_of_lt (Nat.and_lt_two_pow _ hm)] at h1
  exact h1

theorem shift_and (s m : Nat) (hs : s ≤ 8) (hm : m < 2 ^ (8 - s)) : ∀ n x, (x / 2 ^ s) &&& mask m n = bw (fun b => (b / 2 ^ s) &&& m) n x
  | 0, x => by simp [mask, bw]
  | n + 1, x => by
    have hm8 : m < 256 := Nat.lt_of_lt_of_le hm (show 2 ^ (8 - s) ≤ 2 ^ 8 from Nat.pow_le_pow_right (by omega) (by omega))
    have hp : 2 ^ s * 2 ^ (8 - s) = 256 := by rw [← Nat.pow_add, show s + (8 - s) = 8 by omega]
    have e1 : (m + 256 * mask m n) % 256 = m := by rw [Nat.add_mul_mod_self_left, Nat.mod_eq_of_lt hm8]
    have e2 : (m + 256 * mask m n) / 256 = mask m n := by omega
    have e3 : x / 2 ^ s / 256 = x / 256 / 2 ^ s := by rw [Nat.div_div_eq_div_mul, Nat.div_div_eq_div_mul, Nat.mul_comm]
    have e4 : x / 2 ^ s % 256 &&& m = (x % 256 / 2 ^ s) &&& m := by
      rw [and_small (x / 2 ^ s % 256) m _ hm, and_small (x % 256 / 2 ^ s) m _ hm]
      congr 1
      rw [← hp, Nat.mod_mul_right_div_self, Nat.mod_mod, Nat.mul_comm, Nat.mod_mul_right_mod]
    simp only [mask, bw]
    rw [and_byte, e1, e2, e3, e4, shift_and s m hs hm n]

theorem bw_add (g h : Nat → Nat) : ∀ n x, bw g n x + bw h n x = bw (fun b => g b + h b) n x
  | 0, x => rfl
  | n + 1, x => by
    have := bw_add g h n (x / 256)
    simp only [bw]
    omega
theorem bw_bw (g f : Nat → Nat) (hf : ∀ b, b < 256 → f b < 256) : ∀ n x, bw g n (bw f n x) = bw (fun b => g (f b)) n x
  | 0, x => rfl
  | n + 1, x => by
    have h1 := hf (x % 256) (Nat.mod_lt _ (by omega))
    simp only [bw]
    rw [Nat.add_mul_mod_self_left, Nat.mod_eq_of_lt h1, Nat.add_mul_div_left _ _ (by omega), Nat.div_eq_of_lt h1, Nat.zero_add, bw_bw g f hf n]
theorem bw_lt (g : Nat → Nat) (c : Nat) (hg : ∀ b, b < 256 → g b ≤ c) : ∀ n x, bw g n x ≤ mask c n
  | 0, x => Nat.le_refl _
  | n + 1, x => by
    have h1 := hg (x % 256) (Nat.mod_lt _ (by omega))
    have h2 := bw_lt g c hg n (x / 256)
    simp only [bw, mask]
    omega
theorem bw_congr (g h : Nat → Nat) (hh : ∀ b, b < 256 → g b = h b) : ∀ n x, bw g n x = bw h n x
  | 0, x => rfl
  | n + 1, x => by simp only [bw]; rw [hh _ (Nat.mod_lt _ (by omega)), bw_congr g h hh n]

theorem bw_low (f : Nat → Nat) (hf : ∀ b, b < 256 → f b % 16 ≤ 4 ∧ f b / 16 ≤ 4) (n x : Nat) : bw f n x % 16 ≤ 4 := by
  cases n with
  | zero => simp [bw]
  | succ n =>
    have h1 := hf (x % 256) (Nat.mod_lt _ (by omega))
    simp only [bw]
    omega
/-- The third step: the two halves of each byte are added, where they are at most 4. -/
theorem halves (f : Nat → Nat) (hf : ∀ b, b < 256 → f b % 16 ≤ 4 ∧ f b / 16 ≤ 4) : ∀ n x, (bw f n x / 16 + bw f n x) &&& mask 15 n = bw (fun b => f b % 16 + f b / 16) n x
  | 0, x => by simp [mask, bw]
  | n + 1, x => by
    have h1 := hf (x % 256) (Nat.mod_lt _ (by omega))
    have ih := halves f hf n (x / 256)
    have hlow := bw_low f hf n (x / 256)
    simp only [bw, mask]
    generalize f (x % 256) = b at *
    generalize bw f n (x / 256) = y at *
    have hs : (b + 256 * y) / 16 + (b + 256 * y) = (b + b / 16 + 16 * (y % 16)) + 256 * (y / 16 + y) := by omega
    have hl : b + b / 16 + 16 * (y % 16) < 256 := by omega
    rw [hs, and_byte, Nat.add_mul_mod_self_left, Nat.mod_eq_of_lt hl, Nat.add_mul_div_left _ _ (by omega), Nat.div_eq_of_lt hl, Nat.zero_add, Nat.add_mul_mod_self_left, show 15 % 256 = 15 from rfl, show (15 + 256 * mask 15 n) / 256 = mask 15 n by omega, ih]
    have h15 : (b + b / 16 + 16 * (y % 16)) &&& 15 = (b + b / 16 + 16 * (y % 16)) % 16 := Nat.and_two_pow_sub_one_eq_mod _ 4
    rw [h15]
    omega

def g1 (b : Nat) : Nat := (b / 2 ^ 1 &&& 85) + (b / 2 ^ 0 &&& 85)
def g2 (b : Nat) : Nat := (b / 2 ^ 2 &&& 51) + (b / 2 ^ 0 &&& 51)

theorem g1_lt : ∀ b, b < 256 → g1 b < 256 := by decide +kernel
theorem g1_le : ∀ b, b < 256 → g1 b ≤ 170 := by decide +kernel
theorem g2_ok : ∀ b, b < 256 → g2 (g1 b) % 16 ≤ 4 ∧ g2 (g1 b) / 16 ≤ 4 := by decide +kernel
theorem g2_le : ∀ b, b < 256 → g2 (g1 b) ≤ 68 := by decide +kernel
theorem g_pop : ∀ b, b < 256 → g2 (g1 b) % 16 + g2 (g1 b) / 16 = popN 8 b := by decide +kernel

/-- The parallel sums, as the library writes them. -/
def par1 (x : Nat) : Nat := (x / 2 &&& 6148914691236517205) + (x &&& 6148914691236517205)
def par2 (x : Nat) : Nat := (x / 4 &&& 3689348814741910323) + (x &&& 3689348814741910323)
def par3 (x : Nat) : Nat := (x / 16 + x) &&& 1085102592571150095

theorem par1_eq (x : Nat) : par1 x = bw g1 8 x := by
  have e1 := shift_and 1 85 (by omega) (by decide) 8 x
  have e0 := shift_and 0 85 (by omega) (by decide) 8 x
  rw [Nat.pow_zero, Nat.div_one] at e0
  have hm : mask 85 8 = 6148914691236517205 := by decide +kernel
  rw [hm] at e1 e0
  unfold par1 g1
  rw [← bw_add, ← e1, ← e0]
theorem par2_eq (x : Nat) : par2 x = bw g2 8 x := by
  have e1 := shift_and 2 51 (by omega) (by decide) 8 x
  have e0 := shift_and 0 51 (by omega) (by decide) 8 x
  rw [Nat.pow_zero, Nat.div_one] at e0
  have hm : mask 51 8 = 3689348814741910323 := by decide +kernel
  rw [hm] at e1 e0
  unfold par2 g2
  rw [← bw_add, ← e1, ← e0]
theorem par_pop (x : Nat) : par3 (par2 (par1 x)) = bw (popN 8) 8 x := by
  rw [par1_eq, par2_eq, bw_bw g2 g1 g1_lt]
  have h := halves (fun b => g2 (g1 b)) g2_ok 8 x
  have hm : mask 15 8 = 1085102592571150095 := by decide +kernel
  rw [hm] at h
  unfold par3
  rw [h]
  exact bw_congr _ _ g_pop 8 x
theorem par1_le (x : Nat) : par1 x ≤ 12297829382473034410 := by
  rw [par1_eq]
  exact Nat.le_trans (bw_lt g1 170 g1_le 8 x) (by decide +kernel)
theorem par2_le (x : Nat) : par2 (par1 x) ≤ 4919131752989213764 := by
  rw [par1_eq, par2_eq, bw_bw g2 g1 g1_lt]
  exact Nat.le_trans (bw_lt _ 68 g2_le 8 x) (by decide +kernel)
theorem par3_le (x : Nat) : par3 (par2 (par1 x)) ≤ 578721382704613384 := by
  rw [par_pop]
  exact Nat.le_trans (bw_lt _ 8 (fun b _ => popN_le 8 b) 8 x) (by decide +kernel)

/-- The last sums: the bytes, each at most 8, are added up in the lowest one. -/
def up8 (x : Nat) : Nat := x + x / 256
def up16 (x : Nat) : Nat := x + x / 65536
def up32 (x : Nat) : Nat := x + x / 4294967296

theorem sums (p0 p1 p2 p3 p4 p5 p6 p7 : Nat) (h0 : p0 ≤ 8) (h1 : p1 ≤ 8) (h2 : p2 ≤ 8) (h3 : p3 ≤ 8) (h4 : p4 ≤ 8) (h5 : p5 ≤ 8) (h6 : p6 ≤ 8) (h7 : p7 ≤ 8) :
    up32 (up16 (up8 (p0 + 256 * (p1 + 256 * (p2 + 256 * (p3 + 256 * (p4 + 256 * (p5 + 256 * (p6 + 256 * (p7 + 256 * 0)))))))))) % 128 = p0 + p1 + p2 + p3 + p4 + p5 + p6 + p7 := by
  have e1 : up8 (p0 + 256 * (p1 + 256 * (p2 + 256 * (p3 + 256 * (p4 + 256 * (p5 + 256 * (p6 + 256 * (p7 + 256 * 0)))))))) = (p0 + p1) + 256 * ((p1 + p2) + 256 * ((p2 + p3) + 256 * ((p3 + p4) + 256 * ((p4 + p5) + 256 * ((p5 + p6) + 256 * ((p6 + p7) + 256 * p7)))))) := by
    unfold up8; omega
  have e2 : up16 (up8 (p0 + 256 * (p1 + 256 * (p2 + 256 * (p3 + 256 * (p4 + 256 * (p5 + 256 * (p6 + 256 * (p7 + 256 * 0))))))))) = (p0 + p1 + p2 + p3) + 256 * ((p1 + p2 + p3 + p4) + 256 * ((p2 + p3 + p4 + p5) + 256 * ((p3 + p4 + p5 + p6) + 256 * ((p4 + p5 + p6 + p7) + 256 * ((p5 + p6 + p7) + 256 * ((p6 + p7) + 256 * p7)))))) := by
    rw [e1]; unfold up16; omega
  rw [e2]
  unfold up32
  obtain ⟨Y, hY⟩ : ∃ Y, Y = (p5 + p6 + p7) + 256 * ((p6 + p7) + 256 * p7) := ⟨_, rfl⟩
  rw [← hY]
  clear hY e1 e2
  have e3 : (p0 + p1 + p2 + p3 + 256 * (p1 + p2 + p3 + p4 + 256 * (p2 + p3 + p4 + p5 + 256 * (p3 + p4 + p5 + p6 + 256 * (p4 + p5 + p6 + p7 + 256 * Y))))) / 4294967296 = p4 + p5 + p6 + p7 + 256 * Y := by omega
  rw [e3]
  omega

theorem pop_bytes (x : Nat) : bw (popN 8) 8 x = popN 8 (x % 256) + 256 * (popN 8 (x / 256 % 256) + 256 * (popN 8 (x / 256 / 256 % 256) + 256 * (popN 8 (x / 256 / 256 / 256 % 256) + 256 * (popN 8 (x / 256 / 256 / 256 / 256 % 256) + 256 * (popN 8 (x / 256 / 256 / 256 / 256 / 256 % 256) + 256 * (popN 8 (x / 256 / 256 / 256 / 256 / 256 / 256 % 256) + 256 * (popN 8 (x / 256 / 256 / 256 / 256 / 256 / 256 / 256 % 256) + 256 * 0))))))) := rfl

theorem pop_split (k x : Nat) : popN (8 + k) x = popN 8 (x % 256) + popN k (x / 256) := by
  rw [popN_add]
  have := popN_mod 8 x
  rw [show (2 : Nat) ^ 8 = 256 from rfl] at this ⊢
  rw [this]

theorem ones_count (x : Nat) : up32 (up16 (up8 (par3 (par2 (par1 x))))) % 128 = popN 64 x := by
  rw [par_pop, pop_bytes, sums _ _ _ _ _ _ _ _ (popN_le _ _) (popN_le _ _) (popN_le _ _) (popN_le _ _) (popN_le _ _) (popN_le _ _) (popN_le _ _) (popN_le _ _)]
  rw [show 64 = 8 + 56 from rfl, pop_split 56, show 56 = 8 + 48 from rfl, pop_split 48, show 48 = 8 + 40 from rfl, pop_split 40, show 40 = 8 + 32 from rfl, pop_split 32, show 32 = 8 + 24 from rfl, pop_split 24, show 24 = 8 + 16 from rfl, pop_split 16, show 16 = 8 + 8 from rfl, pop_split 8, show popN 8 (x / 256 / 256 / 256 / 256 / 256 / 256 / 256) = popN 8 (x / 256 / 256 / 256 / 256 / 256 / 256 / 256 % 256) from (popN_mod 8 _).symm]
  omega

end Go.Proofs.YtlbnngolcoefdaaDoor

/- Counting bits. -/
namespace Go.Proofs.YtlbnngolcoefdaaDoor

/-- How many of the first k bits are b. -/
def cnt (L : List Nat) (b : Int) : Nat → Nat
  | 0 => 0
  | k + 1 => cnt L b k + if (bitN L k : Int) = b then 1 else 0
theorem cnt_yes (L : List Nat) (b : Int) (k : Nat) (h : (bitN L k : Int) = b) : cnt L b (k + 1) = cnt L b k + 1 := by rw [cnt, if_pos h]
theorem cnt_no (L : List Nat) (b : Int) (k : Nat) (h : ¬ (bitN L k : Int) = b) : cnt L b (k + 1) = cnt L b k := by rw [cnt, if_neg h, Nat.add_zero]
theorem cnt_le (L : List Nat) (b : Int) (k : Nat) : cnt L b k ≤ k := by
  induction k with
  | zero => exact Nat.le_refl _
  | succ k ih =>
    rw [cnt]
    split <;> omega
theorem cnt_sum (L : List Nat) (k : Nat) : cnt L 0 k + cnt L 1 k = k := by
  induction k with
  | zero => rfl
  | succ k ih =>
    have h := bitN_lt L k
    rw [cnt, cnt]
    by_cases h0 : bitN L k = 0
    · rw [if_pos (by omega), if_neg (by omega)]
      omega
    · rw [if_neg (by omega), if_pos (by omega)]
      omega

theorem popN_succ (r x : Nat) : popN (r + 1) x = popN r x + x / 2 ^ r % 2 := by
  rw [popN_add r 1 x]
  simp [popN]

/-- How many bits 1 the first q words have. -/
def popL (L : List Nat) : Nat → Nat
  | 0 => 0
  | q + 1 => popL L q + popN 64 (L[q]?.getD 0)

theorem cnt_word (L : List Nat) (q : Nat) : ∀ r, r ≤ 64 → cnt L 1 (64 * q + r) = cnt L 1 (64 * q) + popN r (L[q]?.getD 0)
  | 0, _ => rfl
  | r + 1, h => by
    rw [← Nat.add_assoc, popN_succ, ← Nat.add_assoc, ← cnt_word L q r (by omega)]
    have e : bitN L (64 * q + r) = L[q]?.getD 0 / 2 ^ r % 2 := by
      unfold bitN
      rw [show (64 * q + r) / 64 = q by omega, show (64 * q + r) % 64 = r by omega]
      try simp
    have h2 := bitN_lt L (64 * q + r)
    rw [← e, cnt]
    by_cases h1 : bitN L (64 * q + r) = 1
    · rw [if_pos (by omega), h1]
    · rw [if_neg (by omega)]
      omega
theorem cnt_pop (L : List Nat) (q : Nat) : cnt L 1 (64 * q) = popL L q := by
  induction q with
  | zero => rfl
  | succ q ih => rw [Nat.mul_succ, cnt_word L q 64 (Nat.le_refl _), ih, popL]
theorem popL_le (L : List Nat) (q : Nat) : popL L q ≤ 64 * q := by
  rw [← cnt_pop]
  exact cnt_le _ _ _

/-- What Rank is to return. -/
def rankV (N : Int) (L : List Nat) (b i : Int) : Int := if okB N L = true ∧ (b = 0 ∨ b = 1) ∧ 0 ≤ i ∧ i ≤ N then (cnt L b i.toNat : Int) else -1

end Go.Proofs.YtlbnngolcoefdaaDoor

/- Plain mathematics of joined bit vectors: words as the digits of one number. -/
namespace Go.Proofs.YtlbnngolcoefdaaDoor

theorem nat_or_add (i x y : Nat) (hx : x % 2 ^ i = 0) (hy : y < 2 ^ i) : x ||| y = x + y := by
  obtain ⟨q, hq⟩ : ∃ q, x = 2 ^ i * q := ⟨x / 2 ^ i, by have := Nat.div_add_mod x (2 ^ i); omega⟩
  rw [hq, ← Nat.two_pow_add_eq_or_of_lt hy]

/-- The first T digits of a number to the base 2 to the 64. -/
def digits (T v : Nat) : List Nat := (List.range T).map fun j => v / 2 ^ (64 * j) % 2 ^ 64
theorem digits_len (T v : Nat) : (digits T v).length = T := by simp [digits]
theorem digits_get (T v j : Nat) (h : j < T) : (digits T v)[j]? = some (v / 2 ^ (64 * j) % 2 ^ 64) := by simp [digits, h]

/-- The words of bits are the digits of their number. -/
theorem wordsOf_digits (B : List Int) (hB : IsBits B) : wordsOf B = digits ((B.length + 63) / 64) (val B) := by
  apply List.ext_getElem?
  intro j
  by_cases hj : j < (B.length + 63) / 64
  · rw [wordsOf_get _ _ hj, digits_get _ _ _ hj]
    congr 1
    have e1 : val B = val (B.take (64 * j)) + 2 ^ (64 * j) * val (B.drop (64 * j)) := by
      conv => lhs; rw [← List.take_append_drop (64 * j) B]
      rw [val_append, List.length_take, Nat.min_eq_left (by omega)]
    have h1 : val (B.take (64 * j)) < 2 ^ (64 * j) := by
      have := val_lt _ (hB.take (64 * j))
      rwa [List.length_take, Nat.min_eq_left (by omega)] at this
    have e2 : val B / 2 ^ (64 * j) = val (B.drop (64 * j)) := by
      rw [e1, Nat.add_mul_div_left _ _ (Nat.two_pow_pos _), Nat.div_eq_of_lt h1, Nat.zero_add]
    rw [e2]
    by_cases h64 : 64 ≤ (B.drop (64 * j)).length
    · have e3 : val (B.drop (64 * j)) = val ((B.drop (64 * j)).take 64) + 2 ^ 64 * val ((B.drop (64 * j)).drop 64) := by
        conv => lhs; rw [← List.take_append_drop 64 (B.drop (64 * j))]
        rw [val_append, List.length_take, Nat.min_eq_left h64]
      have h3 : val ((B.drop (64 * j)).take 64) < 2 ^ 64 := by
        have := val_lt _ ((hB.drop (64 * j)).take 64)
        rwa [List.length_take, Nat.min_eq_left h64] at this
      rw [e3, Nat.add_mul_mod_self_left, Nat.mod_eq_of_lt h3]
    · rw [List.take_of_length_le (by omega)]
      have h3 : val (B.drop (64 * j)) < 2 ^ 64 := by
        have := val_lt _ (hB.drop (64 * j))
        exact Nat.lt_of_lt_of_le this (Nat.pow_le_pow_right (by omega) (by omega))
      rw [Nat.mod_eq_of_lt h3]
  · rw [List.getElem?_eq_none (by rw [wordsOf_len]; omega), List.getElem?_eq_none (by rw [digits_len]; omega)]

/-- A word laid in at bit 64 f + s of a number that ends before it: what the digits become. -/
theorem digits_put (T v f s x : Nat) (hs : s < 64) (hv : v < 2 ^ (64 * f + s)) (hx : x < 2 ^ 64) (hf : f < T) :
    digits T (v + 2 ^ (64 * f + s) * x) = ((digits T v).set f (v / 2 ^ (64 * f) % 2 ^ 64 + x * 2 ^ s % 2 ^ 64)).set (f + 1) (x * 2 ^ s / 2 ^ 64) ∧ v / 2 ^ (64 * f) % 2 ^ 64 < 2 ^ s ∧ (∀ j, f < j → v / 2 ^ (64 * j) % 2 ^ 64 = 0) := by
  have hp : 0 < 2 ^ (64 * f) := Nat.two_pow_pos _
  have hd : v / 2 ^ (64 * f) < 2 ^ s := by
    rw [Nat.div_lt_iff_lt_mul hp, ← Nat.pow_add, Nat.add_comm]; exact hv
  have hps : 2 ^ s ≤ 2 ^ 63 := Nat.pow_le_pow_right (by omega) (by omega)
  have hd64 : v / 2 ^ (64 * f) % 2 ^ 64 = v / 2 ^ (64 * f) := Nat.mod_eq_of_lt (by omega)
  have hzero : ∀ j, f < j → v / 2 ^ (64 * j) = 0 := fun j hj => by
    apply Nat.div_eq_of_lt
    exact Nat.lt_of_lt_of_le hv (Nat.pow_le_pow_right (by omega) (by omega))
  refine ⟨?_, by rw [hd64]; exact hd, fun j hj => by rw [hzero j hj]⟩
  have hsplit : (v + 2 ^ (64 * f + s) * x) / 2 ^ (64 * f) = v / 2 ^ (64 * f) + 2 ^ s * x := by
    rw [Nat.pow_add, Nat.mul_assoc, Nat.add_mul_div_left _ _ hp]
  have hspos : 0 < 2 ^ s := Nat.two_pow_pos s
  obtain ⟨k, hk⟩ : ∃ k, 2 ^ 64 = 2 ^ s * k := ⟨2 ^ (64 - s), by rw [← Nat.pow_add]; congr 1; try omega⟩
  have hm1 : (2 ^ s * x) % 2 ^ 64 = 2 ^ s * (x % k) := by rw [hk, Nat.mul_mod_mul_left]
  have hkpos : 0 < k := by
    rcases Nat.eq_zero_or_pos k with h | h
    · rw [h, Nat.mul_zero] at hk; exact absurd hk (by decide)
    · exact h
  have hrest : v / 2 ^ (64 * f) + (2 ^ s * x) % 2 ^ 64 < 2 ^ 64 := by
    rw [hm1]
    have h1 : x % k + 1 ≤ k := Nat.mod_lt _ hkpos
    have h2 : 2 ^ s * (x % k + 1) ≤ 2 ^ s * k := Nat.mul_le_mul_left _ h1
    rw [← hk, Nat.mul_add, Nat.mul_one] at h2
    omega
  have hmod : (v / 2 ^ (64 * f) + 2 ^ s * x) % 2 ^ 64 = v / 2 ^ (64 * f) + 2 ^ s * x % 2 ^ 64 := by
    rw [Nat.add_mod, Nat.mod_eq_of_lt (show v / 2 ^ (64 * f) < 2 ^ 64 by omega), Nat.mod_eq_of_lt hrest]
  have hdiv : (v / 2 ^ (64 * f) + 2 ^ s * x) / 2 ^ 64 = 2 ^ s * x / 2 ^ 64 := by
    have e := Nat.div_add_mod (2 ^ s * x) (2 ^ 64)
    conv => lhs; rw [← e]
    rw [show v / 2 ^ (64 * f) + (2 ^ 64 * (2 ^ s * x / 2 ^ 64) + 2 ^ s * x % 2 ^ 64) = (v / 2 ^ (64 * f) + 2 ^ s * x % 2 ^ 64) + 2 ^ 64 * (2 ^ s * x / 2 ^ 64) by omega]
    rw [Nat.add_mul_div_left _ _ (by decide), Nat.div_eq_of_lt hrest, Nat.zero_add]
  apply List.ext_getElem?
  intro j
  by_cases hj : j < T
  · rw [digits_get _ _ _ hj, List.getElem?_set, List.length_set, digits_len, List.getElem?_set, digits_len]
    by_cases h1 : f + 1 = j
    · subst h1
      rw [if_pos rfl, if_pos hj]
      congr 1
      rw [show 2 ^ (64 * (f + 1)) = 2 ^ (64 * f) * 2 ^ 64 by rw [← Nat.pow_add]; congr 1, ← Nat.div_div_eq_div_mul, hsplit, hdiv, Nat.mul_comm x]
      apply Nat.mod_eq_of_lt
      rw [Nat.div_lt_iff_lt_mul (by decide)]
      exact Nat.lt_of_lt_of_le (Nat.mul_lt_mul_of_lt_of_le (show 2 ^ s < 2 ^ 64 by omega) (Nat.le_of_lt hx) (by decide)) (Nat.le_refl _)
    · rw [if_neg h1]
      by_cases h2 : f = j
      · subst h2
        rw [if_pos rfl, if_pos hj, hsplit, hmod, hd64, Nat.mul_comm x]
      · rw [if_neg h2, digits_get _ _ _ hj]
        congr 1
        rcases Nat.lt_or_ge j f with h3 | h3
        · obtain ⟨q, hq⟩ : ∃ q, 2 ^ (64 * f + s) = 2 ^ (64 * j) * (2 ^ 64 * q) := ⟨2 ^ (64 * f + s - 64 * j - 64), by rw [← Nat.pow_add, ← Nat.pow_add]; congr 1; omega⟩
          rw [hq, Nat.mul_assoc, Nat.add_mul_div_left _ _ (Nat.two_pow_pos _), Nat.mul_assoc, Nat.add_mul_mod_self_left]
        · have h4 : f + 1 < j := by omega
          rw [hzero j (by omega)]
          have hlt : v + 2 ^ (64 * f + s) * x < 2 ^ (64 * j) := by
            have ha : v + 2 ^ (64 * f + s) * x < 2 ^ (64 * f + s) * (x + 1) := by rw [Nat.mul_add, Nat.mul_one]; omega
            have hb : 2 ^ (64 * f + s) * (x + 1) ≤ 2 ^ (64 * f + s) * 2 ^ 64 := Nat.mul_le_mul_left _ hx
            rw [← Nat.pow_add] at hb
            exact Nat.lt_of_lt_of_le ha (Nat.le_trans hb (Nat.pow_le_pow_right (by omega) (by omega)))
          rw [Nat.div_eq_of_lt hlt]
  · rw [List.getElem?_eq_none (by rw [digits_len]; omega), List.getElem?_eq_none (by rw [List.length_set, List.length_set, digits_len]; omega)]

/-- The number of a valid bit vector: its bits, and its words as digits. -/
theorem valid_digits (n : Nat) (L : List Nat) (hl : L.length = (n + 63) / 64) (hw : ∀ x ∈ L, x < 2 ^ 64) (ht : tailB n L = true) : L = digits L.length (val (bitsOf n L)) := by
  have h := wordsOf_digits (bitsOf n L) (bitsOf_bits n L)
  rw [(words_back n L hl hw).2 ht, bitsOf_len, ← hl] at h
  exact h

/-- The number after k words of the second vector are laid in. -/
def joinNum (n : Nat) (L : List Nat) (m : Nat) (K : List Nat) (k : Nat) : Nat := val (bitsOf n L) + 2 ^ n * (val (bitsOf m K) % 2 ^ (64 * k))

theorem joinNum_zero (n : Nat) (L : List Nat) (m : Nat) (K : List Nat) : joinNum n L m K 0 = val (bitsOf n L) := by simp [joinNum, Nat.mod_one]
theorem joinNum_lt (n : Nat) (L : List Nat) (m : Nat) (K : List Nat) (k : Nat) : joinNum n L m K k < 2 ^ (n + 64 * k) := by
  have h1 := val_lt _ (bitsOf_bits n L)
  rw [bitsOf_len] at h1
  have h2 : val (bitsOf m K) % 2 ^ (64 * k) + 1 ≤ 2 ^ (64 * k) := Nat.mod_lt _ (Nat.two_pow_pos _)
  have h3 : 2 ^ n * (val (bitsOf m K) % 2 ^ (64 * k) + 1) ≤ 2 ^ n * 2 ^ (64 * k) := Nat.mul_le_mul_left _ h2
  rw [Nat.mul_add, Nat.mul_one, ← Nat.pow_add] at h3
  unfold joinNum
  omega
theorem joinNum_succ (n : Nat) (L : List Nat) (m : Nat) (K : List Nat) (k x : Nat) (hx : val (bitsOf m K) / 2 ^ (64 * k) % 2 ^ 64 = x) : joinNum n L m K (k + 1) = joinNum n L m K k + 2 ^ (n + 64 * k) * x := by
  unfold joinNum
  rw [show 64 * (k + 1) = 64 * k + 64 by omega, Nat.pow_add 2 (64 * k), Nat.mod_mul, hx, Nat.mul_add, Nat.pow_add, Nat.mul_assoc, Nat.add_assoc]
theorem joinNum_all (n : Nat) (L : List Nat) (m : Nat) (K : List Nat) (k : Nat) (hk : m ≤ 64 * k) : joinNum n L m K k = val (bitsOf n L ++ bitsOf m K) := by
  have h2 := val_lt _ (bitsOf_bits m K)
  rw [bitsOf_len] at h2
  unfold joinNum
  rw [val_append, bitsOf_len, Nat.mod_eq_of_lt (Nat.lt_of_lt_of_le h2 (Nat.pow_le_pow_right (by omega) hk))]

theorem join_bits (n : Nat) (L : List Nat) (m : Nat) (K : List Nat) : IsBits (bitsOf n L ++ bitsOf m K) := by
  intro b hb
  rcases List.mem_append.1 hb with h | h
  · exact bitsOf_bits _ _ b h
  · exact bitsOf_bits _ _ b h

/-- The words at the start: the first vector's, and then 0. -/
theorem join_start (n : Nat) (L : List Nat) (T : Nat) (hl : L.length = (n + 63) / 64) (hT : L.length ≤ T) (hw : ∀ x ∈ L, x < 2 ^ 64) (ht : tailB n L = true) : digits T (val (bitsOf n L)) = L ++ List.replicate (T - L.length) 0 := by
  have h := valid_digits n L hl hw ht
  have hv := val_lt _ (bitsOf_bits n L)
  rw [bitsOf_len] at hv
  apply List.ext_getElem?
  intro j
  by_cases hj : j < T
  · rw [digits_get _ _ _ hj]
    by_cases hjl : j < L.length
    · rw [List.getElem?_append_left hjl]
      conv => rhs; rw [h]
      rw [digits_get _ _ _ hjl]
    · rw [List.getElem?_append_right (by omega), List.getElem?_replicate, if_pos (by omega)]
      congr 1
      rw [Nat.div_eq_of_lt (Nat.lt_of_lt_of_le hv (Nat.pow_le_pow_right (by omega) (by omega)))]
  · rw [List.getElem?_eq_none (by rw [digits_len]; omega), List.getElem?_eq_none (by rw [List.length_append, List.length_replicate]; omega)]

/-- One round: what the two words become. -/
theorem join_round (n : Nat) (L : List Nat) (m : Nat) (K : List Nat) (T k x : Nat) (hl : K.length = (m + 63) / 64) (hw : ∀ x ∈ K, x < 2 ^ 64) (ht : tailB m K = true) (hx : K[k]? = some x) (hf : n / 64 + k < T) :
    digits T (joinNum n L m K (k + 1)) = ((digits T (joinNum n L m K k)).set (n / 64 + k) (joinNum n L m K k / 2 ^ (64 * (n / 64 + k)) % 2 ^ 64 ||| x * 2 ^ (n % 64) % 2 ^ 64)).set (n / 64 + k + 1) (x * 2 ^ (n % 64) / 2 ^ 64) ∧
    (n / 64 + k + 1 < T → (digits T (joinNum n L m K k))[n / 64 + k + 1]? = some 0) := by
  have hk := (List.getElem?_eq_some_iff.1 hx).1
  have hd := valid_digits m K hl hw ht
  have hxd : val (bitsOf m K) / 2 ^ (64 * k) % 2 ^ 64 = x := by
    have h1 : K[k]? = (digits K.length (val (bitsOf m K)))[k]? := by rw [← hd]
    rw [hx, digits_get _ _ _ hk] at h1
    exact (Option.some.inj h1).symm
  have e : n + 64 * k = 64 * (n / 64 + k) + n % 64 := by omega
  have hlt := joinNum_lt n L m K k
  rw [e] at hlt
  obtain ⟨h1, h2, h3⟩ := digits_put T (joinNum n L m K k) (n / 64 + k) (n % 64) x (by omega) hlt (hw x (List.mem_of_getElem? hx)) hf
  have hor : joinNum n L m K k / 2 ^ (64 * (n / 64 + k)) % 2 ^ 64 ||| x * 2 ^ (n % 64) % 2 ^ 64 = joinNum n L m K k / 2 ^ (64 * (n / 64 + k)) % 2 ^ 64 + x * 2 ^ (n % 64) % 2 ^ 64 := by
    obtain ⟨q, hq⟩ : ∃ q, 2 ^ 64 = 2 ^ (n % 64) * q := ⟨2 ^ (64 - n % 64), by rw [← Nat.pow_add, show n % 64 + (64 - n % 64) = 64 by omega]⟩
    have hm : x * 2 ^ (n % 64) % 2 ^ 64 % 2 ^ (n % 64) = 0 := by
      rw [hq, Nat.mod_mul_right_mod, Nat.mul_mod_left]
    rw [Nat.or_comm, nat_or_add _ _ _ hm h2, Nat.add_comm]
  rw [joinNum_succ n L m K k x hxd, e, h1, hor]
  refine ⟨rfl, fun hT => ?_⟩
  rw [digits_get _ _ _ hT, h3 _ (by omega)]

end Go.Proofs.YtlbnngolcoefdaaDoor

/- Plain mathematics of packed integers. Nothing of the program and nothing of the model stands here. -/
namespace Go.Proofs.YtlbnngolcoefdaaDoor

/-- One round of reading a field out of units of s bits. -/
theorem field_round (V a g s x m : Nat) (hs : 0 < s) (hx : x = V / 2 ^ (s * ((a + g) / s)) % 2 ^ s) (hm : m = V / 2 ^ a % 2 ^ (min g 64)) :
    m ||| x / 2 ^ ((a + g) % s) * 2 ^ g % 2 ^ 64 = V / 2 ^ a % 2 ^ (min (g + (s - (a + g) % s)) 64) := by
  have hf := Nat.mod_lt (a + g) hs
  have hd := Nat.div_add_mod (a + g) s
  generalize (a + g) % s = f at *
  generalize s * ((a + g) / s) = u at *
  subst hx hm
  apply Nat.eq_of_testBit_eq
  intro i
  rw [Nat.testBit_or, Nat.testBit_mod_two_pow, Nat.testBit_mod_two_pow, Nat.testBit_mod_two_pow, Nat.testBit_div_two_pow, Nat.mul_comm, Nat.testBit_two_pow_mul, Nat.testBit_div_two_pow, Nat.testBit_mod_two_pow, Nat.testBit_div_two_pow]
  by_cases h64 : i < 64
  · by_cases hg : i < g
    · have h1 : ¬ g ≤ i := by omega
      have h2 : i < min g 64 := by omega
      have h3 : i < min (g + (s - f)) 64 := by omega
      simp [h1, h2, h3]
    · have h1 : g ≤ i := by omega
      have h2 : ¬ i < min g 64 := by omega
      by_cases h3 : i < g + (s - f)
      · have h4 : i < min (g + (s - f)) 64 := by omega
        have h5 : i - g + f < s := by omega
        have h6 : i - g + f + u = i + a := by omega
        simp [h1, h2, h4, h5, h6, h64]
      · have h4 : ¬ i < min (g + (s - f)) 64 := by omega
        have h5 : ¬ i - g + f < s := by omega
        simp [h2, h4, h5]
  · have h2 : ¬ i < min g 64 := by omega
    have h4 : ¬ i < min (g + (s - f)) 64 := by omega
    simp [h2, h4, h64]

theorem field_end (V a g wd : Nat) (hg : wd ≤ g) (hw : wd ≤ 64) : V / 2 ^ a % 2 ^ (min g 64) % 2 ^ wd = V / 2 ^ a % 2 ^ wd := by
  rw [Nat.mod_mod_of_dvd _ (Nat.pow_dvd_pow 2 (by omega))]

/-- The bits of a list of bits, out of its number. -/
theorem val_bit (B : List Int) (hB : IsBits B) (j : Nat) (h : j < B.length) : B[j]? = some ((val B / 2 ^ j % 2 : Nat) : Int) := by
  have e1 : val B = val (B.take j) + 2 ^ j * val (B.drop j) := by
    conv => lhs; rw [← List.take_append_drop j B]
    rw [val_append, List.length_take, Nat.min_eq_left (by omega)]
  have h1 : val (B.take j) < 2 ^ j := by
    have := val_lt _ (hB.take j)
    rwa [List.length_take, Nat.min_eq_left (by omega)] at this
  have e2 : val B / 2 ^ j = val (B.drop j) := by
    rw [e1, Nat.add_mul_div_left _ _ (Nat.two_pow_pos _), Nat.div_eq_of_lt h1, Nat.zero_add]
  have hb := hB B[j] (List.getElem_mem h)
  rw [e2, List.drop_eq_getElem_cons h, val, List.getElem?_eq_getElem h]
  congr 1
  omega

/-- Digit by digit from above. -/
theorem field_down (V a d : Nat) : V / 2 ^ a % 2 ^ (d + 1) = 2 * (V / 2 ^ (a + 1) % 2 ^ d) + V / 2 ^ a % 2 := by
  rw [Nat.pow_succ 2 d, Nat.mul_comm (2 ^ d), Nat.mod_mul, Nat.pow_succ, ← Nat.div_div_eq_div_mul, Nat.add_comm]

/-- The binary digits of a number, the least first. -/
def numBits (wd : Nat) (n : Int) : List Int := (List.range wd).map fun i => ((n.toNat / 2 ^ i % 2 : Nat) : Int)
theorem numBits_len (wd : Nat) (n : Int) : (numBits wd n).length = wd := by simp [numBits]
theorem numBits_bits (wd : Nat) (n : Int) : IsBits (numBits wd n) := by
  intro b hb
  simp only [numBits, List.mem_map] at hb
  obtain ⟨i, _, rfl⟩ := hb
  have := Nat.mod_lt (n.toNat / 2 ^ i) (show 0 < 2 by decide)
  omega
theorem numBits_val (wd : Nat) (n : Int) : val (numBits wd n) = n.toNat % 2 ^ wd := val_digits n.toNat wd
theorem numBits_succ (wd : Nat) (n : Int) : numBits (wd + 1) n = numBits wd n ++ [((n.toNat / 2 ^ wd % 2 : Nat) : Int)] := by simp [numBits, List.range_succ]

/-- The bits of a list of numbers, and their number. -/
def packBits (wd : Nat) (L : List Int) : List Int := (L.map (numBits wd)).flatten
def packNum (wd : Nat) (L : List Int) : Nat := val (packBits wd L)
theorem packBits_nil (wd : Nat) : packBits wd [] = [] := rfl
theorem packBits_snoc (wd : Nat) (L : List Int) (n : Int) : packBits wd (L ++ [n]) = packBits wd L ++ numBits wd n := by simp [packBits]
theorem packBits_append (wd : Nat) (L M : List Int) : packBits wd (L ++ M) = packBits wd L ++ packBits wd M := by simp [packBits]
theorem packBits_cons (wd : Nat) (n : Int) (M : List Int) : packBits wd (n :: M) = numBits wd n ++ packBits wd M := by simp [packBits]
theorem packBits_len (wd : Nat) (L : List Int) : (packBits wd L).length = L.length * wd := by
  induction L with
  | nil => simp [packBits]
  | cons n L ih =>
    have e : packBits wd (n :: L) = numBits wd n ++ packBits wd L := by simp [packBits]
    rw [e, List.length_append, numBits_len, ih, List.length_cons, Nat.succ_mul, Nat.add_comm]
theorem packBits_bits (wd : Nat) (L : List Int) : IsBits (packBits wd L) := by
  intro b hb
  simp only [packBits, List.mem_flatten, List.mem_map] at hb
  obtain ⟨l, ⟨n, _, rfl⟩, h⟩ := hb
  exact numBits_bits wd n b h
theorem packNum_lt (wd : Nat) (L : List Int) : packNum wd L < 2 ^ (L.length * wd) := by
  have h := val_lt _ (packBits_bits wd L)
  rwa [packBits_len] at h
theorem packNum_nil (wd : Nat) : packNum wd [] = 0 := rfl
theorem packNum_snoc (wd : Nat) (L : List Int) (n : Nat) (h : n < 2 ^ wd) : packNum wd (L ++ [(n : Int)]) = packNum wd L + 2 ^ (L.length * wd) * n := by
  unfold packNum
  rw [packBits_snoc, val_append, packBits_len, numBits_val, Int.toNat_natCast, Nat.mod_eq_of_lt h]
theorem packWords (wd : Nat) (L : List Int) : wordsOf (packBits wd L) = digits ((L.length * wd + 63) / 64) (packNum wd L) := by
  rw [wordsOf_digits _ (packBits_bits wd L), packBits_len]; rfl

/-- Number k of the packed ones. -/
theorem packNum_get (wd : Nat) (L : List Int) (hL : ∀ n ∈ L, 0 ≤ n ∧ n < 2 ^ wd) (k : Nat) (h : k < L.length) : ((packNum wd L / 2 ^ (k * wd) % 2 ^ wd : Nat) : Int) = L[k] := by
  have e : L = L.take k ++ (L[k] :: L.drop (k + 1)) := by rw [← List.drop_eq_getElem_cons h, List.take_append_drop]
  have hb := hL L[k] (List.getElem_mem h)
  have e1 : packBits wd L = packBits wd (L.take k) ++ (numBits wd L[k] ++ packBits wd (L.drop (k + 1))) := by
    conv => lhs; rw [e]
    rw [packBits_append, packBits_cons]
  have h1 := packNum_lt wd (L.take k)
  have hk : (L.take k).length = k := by rw [List.length_take]; omega
  have h2 : L[k].toNat < 2 ^ wd := by
    have h3 : ((L[k].toNat : Nat) : Int) < ((2 ^ wd : Nat) : Int) := by rw [Int.toNat_of_nonneg hb.1]; simpa using hb.2
    exact Int.ofNat_lt.1 h3
  have e2 : packNum wd L = packNum wd (L.take k) + 2 ^ (k * wd) * (L[k].toNat + 2 ^ wd * packNum wd (L.drop (k + 1))) := by
    unfold packNum
    rw [e1, val_append, val_append, packBits_len, numBits_val, numBits_len, Nat.mod_eq_of_lt h2, hk]
  rw [hk] at h1
  rw [e2, Nat.add_mul_div_left _ _ (Nat.two_pow_pos _), Nat.div_eq_of_lt h1, Nat.zero_add, Nat.add_mul_mod_self_left, Nat.mod_eq_of_lt h2, Int.toNat_of_nonneg hb.1]

/-- The numbers of a packed number. -/
def unpack (wd N V : Nat) : List Int := (List.range N).map fun i => ((V / 2 ^ (i * wd) % 2 ^ wd : Nat) : Int)
theorem unpack_len (wd N V : Nat) : (unpack wd N V).length = N := by simp [unpack]
theorem unpack_get (wd N V i : Nat) (h : i < N) : (unpack wd N V)[i]? = some ((V / 2 ^ (i * wd) % 2 ^ wd : Nat) : Int) := by simp [unpack, h]
theorem unpack_succ (wd N V : Nat) : unpack wd (N + 1) V = unpack wd N V ++ [((V / 2 ^ (N * wd) % 2 ^ wd : Nat) : Int)] := by simp [unpack, List.range_succ]

/-- A number laid in behind those that are there: what the words become. -/
theorem digits_lay (T v f s n : Nat) (hs : s < 64) (hv : v < 2 ^ (64 * f + s)) (hn : n < 2 ^ 32) (hf : f < T) :
    (n * 2 ^ s / 2 ^ 64 = 0 → digits T (v + 2 ^ (64 * f + s) * n) = (digits T v).set f (v / 2 ^ (64 * f) % 2 ^ 64 ||| n * 2 ^ s % 2 ^ 64)) ∧
    digits T (v + 2 ^ (64 * f + s) * n) = ((digits T v).set f (v / 2 ^ (64 * f) % 2 ^ 64 ||| n * 2 ^ s % 2 ^ 64)).set (f + 1) (n * 2 ^ s / 2 ^ 64) ∧ (f + 1 < T → (digits T v)[f + 1]? = some 0) := by
  obtain ⟨h1, h2, h3⟩ := digits_put T v f s n hs hv (Nat.lt_of_lt_of_le hn (by decide)) hf
  have hor : v / 2 ^ (64 * f) % 2 ^ 64 ||| n * 2 ^ s % 2 ^ 64 = v / 2 ^ (64 * f) % 2 ^ 64 + n * 2 ^ s % 2 ^ 64 := by
    obtain ⟨q, hq⟩ : ∃ q, 2 ^ 64 = 2 ^ s * q := ⟨2 ^ (64 - s), by rw [← Nat.pow_add, show s + (64 - s) = 64 by omega]⟩
    have hm : n * 2 ^ s % 2 ^ 64 % 2 ^ s = 0 := by
      rw [hq, Nat.mod_mul_right_mod, Nat.mul_mod_left]
    rw [Nat.or_comm, nat_or_add _ _ _ hm h2, Nat.add_comm]
  have h4 : f + 1 < T → (digits T v)[f + 1]? = some 0 := fun hT => by rw [digits_get _ _ _ hT, h3 _ (by omega)]
  rw [hor]
  refine ⟨fun h0 => ?_, h1, h4⟩
  rw [h1, h0]
  apply List.ext_getElem?
  intro j
  rw [List.getElem?_set]
  by_cases hj : f + 1 = j
  · subst hj
    rw [if_pos rfl, List.length_set, digits_len]
    by_cases hT : f + 1 < T
    · rw [if_pos hT, List.getElem?_set_ne (by omega), h4 hT]
    · rw [if_neg hT, List.getElem?_eq_none (by rw [List.length_set, digits_len]; omega)]
  · rw [if_neg hj]

/-- Where something is left over for the next word there is one. -/
theorem lay_room (T k N wd n f s : Nat) (hk : k < N) (hT : T = (N * wd + 63) / 64) (hf : f = k * wd / 64) (hs : s = k * wd % 64) (hn : n < 2 ^ wd) (h : n * 2 ^ s / 2 ^ 64 ≠ 0) : f + 1 < T := by
  have h1 : 2 ^ 64 ≤ n * 2 ^ s := by
    rcases Nat.lt_or_ge (n * 2 ^ s) (2 ^ 64) with h2 | h2
    · exact absurd (Nat.div_eq_of_lt h2) h
    · exact h2
  have h3 : n * 2 ^ s < 2 ^ (wd + s) := by
    rw [Nat.pow_add]
    exact Nat.mul_lt_mul_of_pos_right hn (Nat.two_pow_pos _)
  have h4 : 64 < wd + s := by
    rcases Nat.lt_or_ge 64 (wd + s) with h5 | h5
    · exact h5
    · have := Nat.pow_le_pow_right (show 0 < 2 by decide) h5
      omega
  have h5 : (k + 1) * wd ≤ N * wd := Nat.mul_le_mul_right _ hk
  rw [Nat.succ_mul] at h5
  omega
/-- A number that is not 0 has a word. -/
theorem lay_first (T k N wd n : Nat) (hk : k < N) (hT : T = (N * wd + 63) / 64) (hn : n < 2 ^ wd) (h : n ≠ 0) : k * wd / 64 < T := by
  have h5 : (k + 1) * wd ≤ N * wd := Nat.mul_le_mul_right _ hk
  rw [Nat.succ_mul] at h5
  have : 0 < wd := by
    rcases Nat.eq_zero_or_pos wd with h6 | h6
    · subst h6; simp at hn; omega
    · exact h6
  omega

end Go.Proofs.YtlbnngolcoefdaaDoor

/- Plain mathematics of valid sparse lists: the numbers that High and Low give. -/
namespace Go.Proofs.YtlbnngolcoefdaaDoor

/-- The numbers that the first k bits of High and the low parts give. -/
def spl (wd : Nat) (low : List Int) (Vs : List Nat) : Nat → List Int
  | 0 => []
  | k + 1 => if bitN Vs k = 1 then (match low[cnt Vs 1 k]? with
    | some y => spl wd low Vs k ++ [(cnt Vs 0 k : Int) * 2 ^ wd + y]
    | none => spl wd low Vs k) else spl wd low Vs k

section
variable (wd : Nat) (low : List Int) (Vs : List Nat)

theorem spl_no (k : Nat) (h : ¬ bitN Vs k = 1) : spl wd low Vs (k + 1) = spl wd low Vs k := by rw [spl, if_neg h]
theorem spl_push (k : Nat) (y : Int) (h : bitN Vs k = 1) (hy : low[cnt Vs 1 k]? = some y) : spl wd low Vs (k + 1) = spl wd low Vs k ++ [(cnt Vs 0 k : Int) * 2 ^ wd + y] := by
  rw [spl, if_pos h, hy]
theorem spl_full (k : Nat) (hy : low.length ≤ cnt Vs 1 k) : spl wd low Vs (k + 1) = spl wd low Vs k := by
  have : low[cnt Vs 1 k]? = none := List.getElem?_eq_none hy
  rw [spl, this]
  simp

theorem cnt_one (k : Nat) : cnt Vs 1 (k + 1) = cnt Vs 1 k + if bitN Vs k = 1 then 1 else 0 := by
  rw [cnt]
  by_cases h : bitN Vs k = 1
  · rw [if_pos h, if_pos (by omega)]
  · rw [if_neg h, if_neg (by omega)]

theorem spl_len (k : Nat) : (spl wd low Vs k).length = min (cnt Vs 1 k) low.length := by
  induction k with
  | zero => simp [spl, cnt]
  | succ k ih =>
    rw [cnt_one]
    by_cases h : bitN Vs k = 1
    · rw [if_pos h]
      by_cases hl : cnt Vs 1 k < low.length
      · rw [spl_push wd low Vs k _ h (List.getElem?_eq_getElem hl), List.length_append, ih]
        simp
        omega
      · rw [spl_full wd low Vs k (by omega), ih]
        omega
    · rw [if_neg h, spl_no wd low Vs k h, ih]
      omega

theorem spl_at (k : Nat) : ∀ (i : Nat) (x : Int), (spl wd low Vs k)[i]? = some x → ∃ p y, p < k ∧ bitN Vs p = 1 ∧ cnt Vs 1 p = i ∧ low[i]? = some y ∧ x = (cnt Vs 0 p : Int) * 2 ^ wd + y := by
  induction k with
  | zero => intro i x h; simp [spl] at h
  | succ k ih =>
    intro i x h
    have up : (spl wd low Vs k)[i]? = some x → ∃ p y, p < k + 1 ∧ bitN Vs p = 1 ∧ cnt Vs 1 p = i ∧ low[i]? = some y ∧ x = (cnt Vs 0 p : Int) * 2 ^ wd + y := fun h => by
      obtain ⟨p, y, h1, h2⟩ := ih i x h
      exact ⟨p, y, by omega, h2⟩
    by_cases hb : bitN Vs k = 1
    · by_cases hl : cnt Vs 1 k < low.length
      · rw [spl_push wd low Vs k _ hb (List.getElem?_eq_getElem hl)] at h
        have hlen := spl_len wd low Vs k
        by_cases hi : i < (spl wd low Vs k).length
        · rw [List.getElem?_append_left hi] at h
          exact up h
        · rw [List.getElem?_append_right (by omega)] at h
          have hi0 : i - (spl wd low Vs k).length = 0 := by
            have := (List.getElem?_eq_some_iff.1 h).1
            simp at this
            omega
          rw [hi0] at h
          simp at h
          have hii : i = cnt Vs 1 k := by omega
          subst hii
          exact ⟨k, _, by omega, hb, rfl, List.getElem?_eq_getElem hl, h.symm⟩
      · rw [spl_full wd low Vs k (by omega)] at h
        exact up h
    · rw [spl_no wd low Vs k hb] at h
      exact up h

theorem spl_has (k : Nat) : ∀ (p : Nat) (y : Int), p < k → bitN Vs p = 1 → low[cnt Vs 1 p]? = some y → (spl wd low Vs k)[cnt Vs 1 p]? = some ((cnt Vs 0 p : Int) * 2 ^ wd + y) := by
  induction k with
  | zero => intro p y h; omega
  | succ k ih =>
    intro p y hp hb hy
    have hlen := spl_len wd low Vs k
    have hly := (List.getElem?_eq_some_iff.1 hy).1
    by_cases hpk : p = k
    · subst hpk
      rw [spl_push wd low Vs p y hb hy, List.getElem?_append_right (by omega)]
      have : cnt Vs 1 p - (spl wd low Vs p).length = 0 := by omega
      rw [this]
      rfl
    · have h := ih p y (by omega) hb hy
      have hl := (List.getElem?_eq_some_iff.1 h).1
      by_cases hbk : bitN Vs k = 1
      · by_cases hlk : cnt Vs 1 k < low.length
        · rw [spl_push wd low Vs k _ hbk (List.getElem?_eq_getElem hlk), List.getElem?_append_left hl]
          exact h
        · rw [spl_full wd low Vs k (by omega)]
          exact h
      · rw [spl_no wd low Vs k hbk]
        exact h

theorem cntS_mono (b : Int) : ∀ {k m : Nat}, k ≤ m → cnt Vs b k ≤ cnt Vs b m
  | k, 0, h => by rw [Nat.le_zero.1 h]; exact Nat.le_refl _
  | k, m + 1, h => by
    by_cases e : k = m + 1
    · rw [e]; exact Nat.le_refl _
    · have := cntS_mono b (k := k) (m := m) (by omega)
      rw [cnt]
      omega
theorem cntS_lt {p k : Nat} (h : p < k) (hb : bitN Vs p = 1) : cnt Vs 1 p < cnt Vs 1 k := by
  have h1 := cntS_mono Vs 1 (k := p + 1) (m := k) h
  rw [cnt_one, if_pos hb] at h1
  omega
theorem cntS_reach (k : Nat) : ∀ m, m < cnt Vs 1 k → ∃ p, p < k ∧ bitN Vs p = 1 ∧ cnt Vs 1 p = m := by
  induction k with
  | zero => intro m h; simp [cnt] at h
  | succ k ih =>
    intro m h
    by_cases hm : m < cnt Vs 1 k
    · obtain ⟨p, h1, h2⟩ := ih m hm
      exact ⟨p, by omega, h2⟩
    · rw [cnt_one] at h
      by_cases hb : bitN Vs k = 1
      · rw [if_pos hb] at h
        exact ⟨k, by omega, hb, by omega⟩
      · rw [if_neg hb] at h
        omega

theorem quo_rem (c : Nat) (y : Int) (h0 : 0 ≤ y) (h1 : y < 2 ^ wd) : (((c : Int) * 2 ^ wd + y) / 2 ^ wd).toNat = c ∧ ((c : Int) * 2 ^ wd + y) % 2 ^ wd = y := by
  have hp : (0 : Int) < 2 ^ wd := Int.pow_pos (by omega)
  constructor
  · rw [Int.mul_comm, Int.mul_add_ediv_left _ _ (by omega), Int.ediv_eq_zero_of_lt h0 h1, Int.add_zero, Int.toNat_natCast]
  · rw [Int.mul_comm, Int.mul_add_emod_self_left, Int.emod_eq_of_lt h0 h1]

variable (hlow : ∀ y ∈ low, 0 ≤ y ∧ y < 2 ^ wd)
include hlow

theorem spl_rems (k : Nat) (hl : (spl wd low Vs k).length = low.length) : (spl wd low Vs k).map (fun x => x % 2 ^ wd) = low := by
  apply List.ext_getElem?
  intro i
  rw [List.getElem?_map]
  by_cases hi : i < low.length
  · have hx : (spl wd low Vs k)[i]? = some ((spl wd low Vs k)[i]'(by omega)) := List.getElem?_eq_getElem _
    obtain ⟨p, y, _, _, _, hy, e⟩ := spl_at wd low Vs k i _ hx
    rw [hx, Option.map_some, e, hy, (quo_rem wd _ y (hlow y (List.mem_of_getElem? hy)).1 (hlow y (List.mem_of_getElem? hy)).2).2]
  · rw [List.getElem?_eq_none (by omega), List.getElem?_eq_none (by omega)]
    rfl

/-- The number i of the list stands at the bit i + its quotient. -/
theorem spl_place (k i : Nat) (hi : i < (spl wd low Vs k).length) : i + qt (spl wd low Vs k) wd i < k ∧ bitN Vs (i + qt (spl wd low Vs k) wd i) = 1 ∧ cnt Vs 1 (i + qt (spl wd low Vs k) wd i) = i := by
  have hx : (spl wd low Vs k)[i]? = some ((spl wd low Vs k)[i]'hi) := List.getElem?_eq_getElem _
  obtain ⟨p, y, h1, h2, h3, hy, e⟩ := spl_at wd low Vs k i _ hx
  have hq : qt (spl wd low Vs k) wd i = cnt Vs 0 p := by
    rw [qt_at hx, e, (quo_rem wd _ y (hlow y (List.mem_of_getElem? hy)).1 (hlow y (List.mem_of_getElem? hy)).2).1]
  have hs := cnt_sum Vs p
  have hp : i + qt (spl wd low Vs k) wd i = p := by omega
  rw [hp]
  exact ⟨h1, h2, h3⟩

theorem spl_any (k j : Nat) (hj : j < k) (hc : cnt Vs 1 k ≤ low.length) : (List.range (spl wd low Vs k).length).any (fun i => decide (i + qt (spl wd low Vs k) wd i = j)) = true ↔ bitN Vs j = 1 := by
  rw [List.any_eq_true]
  constructor
  · rintro ⟨i, hi, he⟩
    rw [List.mem_range] at hi
    rw [decide_eq_true_iff] at he
    have := spl_place wd low Vs hlow k i hi
    rw [he] at this
    exact this.2.1
  · intro hb
    have hlt := cntS_lt Vs hj hb
    have hx := spl_has wd low Vs k j _ hj hb (List.getElem?_eq_getElem (by omega))
    have hl := (List.getElem?_eq_some_iff.1 hx).1
    refine ⟨cnt Vs 1 j, List.mem_range.2 hl, ?_⟩
    have hy := hlow _ (List.getElem_mem (l := low) (n := cnt Vs 1 j) (by omega))
    rw [decide_eq_true_iff, qt_at hx, (quo_rem wd _ _ hy.1 hy.2).1]
    have := cnt_sum Vs j
    omega

theorem spl_hb (k : Nat) (hc : cnt Vs 1 k ≤ low.length) : hb (spl wd low Vs k) wd (spl wd low Vs k).length k = bitsOf k Vs := by
  unfold hb bitsOf
  apply List.map_congr_left
  intro j hj
  rw [List.mem_range] at hj
  have h := spl_any wd low Vs hlow k j hj hc
  have h2 := bitN_lt Vs j
  by_cases hb : bitN Vs j = 1
  · rw [if_pos (h.2 hb), hb]; rfl
  · rw [if_neg (fun e => hb (h.1 e))]
    have : bitN Vs j = 0 := by omega
    rw [this]; rfl

theorem spl_cnt (k : Nat) (he : bitsOf k Vs = hb (spl wd low Vs k) wd (spl wd low Vs k).length k) (hn : (spl wd low Vs k).length = low.length) : cnt Vs 1 k = low.length := by
  have hl := spl_len wd low Vs k
  by_cases hc : cnt Vs 1 k ≤ low.length
  · omega
  · exfalso
    obtain ⟨p, h1, h2, h3⟩ := cntS_reach Vs k low.length (by omega)
    have hg : (bitsOf k Vs)[p]? = some 1 := by rw [bitsOf_get _ _ _ h1, h2]; rfl
    rw [he] at hg
    unfold hb at hg
    rw [List.getElem?_map, List.getElem?_range h1, Option.map_some] at hg
    have hg := Option.some.inj hg
    split at hg
    · rename_i ha
      rw [List.any_eq_true] at ha
      obtain ⟨i, hi, e⟩ := ha
      rw [List.mem_range] at hi
      rw [decide_eq_true_iff] at e
      have := (spl_place wd low Vs hlow k i hi).2.2
      rw [e] at this
      omega
    · omega
end

theorem packNum_unpack (wd V : Nat) : ∀ n, packNum wd (unpack wd n V) = V % 2 ^ (n * wd)
  | 0 => by simp [unpack, packNum_nil, Nat.mod_one]
  | n + 1 => by
    rw [unpack_succ, packNum_snoc wd _ _ (Nat.mod_lt _ (Nat.two_pow_pos _)), unpack_len, packNum_unpack wd V n, Nat.succ_mul, Nat.pow_add, Nat.mod_mul]

end Go.Proofs.YtlbnngolcoefdaaDoor

/- Plain mathematics of the flipped bit vector. -/
namespace Go.Proofs.YtlbnngolcoefdaaDoor

def flipped (B : List Int) : List Int := B.map fun b => 1 - b
/-- The flipped words of a bit vector of n bits. -/
def flipW (n : Nat) (L : List Nat) : List Nat := (List.range L.length).map fun j => (18446744073709551615 - L.getD j 0) % 2 ^ (min 64 (n - 64 * j))

theorem flipped_bits {B : List Int} (h : IsBits B) : IsBits (flipped B) := by
  intro b hb
  simp only [flipped, List.mem_map] at hb
  obtain ⟨a, ha, rfl⟩ := hb
  have := h a ha
  omega
theorem val_flipped (xs : List Int) (h : IsBits xs) : val (flipped xs) + val xs + 1 = 2 ^ xs.length := by
  induction xs with
  | nil => simp [flipped, val]
  | cons b bs ih =>
    have h1 := ih fun b hb => h b (List.mem_cons_of_mem _ hb)
    have h2 := h b (List.mem_cons_self ..)
    simp only [flipped, List.map_cons, val, List.length_cons, Nat.pow_succ]
    rw [show List.map (fun b => 1 - b) bs = flipped bs from rfl]
    rcases h2 with rfl | rfl <;> simp <;> omega
theorem mod_flip (x m : Nat) (hx : x < 2 ^ 64) (hm : m ≤ 64) : (18446744073709551615 - x) % 2 ^ m = 2 ^ m - 1 - x % 2 ^ m := by
  obtain ⟨k, hk⟩ : ∃ k, 2 ^ 64 = 2 ^ m * k := ⟨2 ^ (64 - m), by rw [← Nat.pow_add]; congr 1; omega⟩
  have hp : 0 < 2 ^ m := Nat.two_pow_pos m
  have hq : x / 2 ^ m < k := by rw [Nat.div_lt_iff_lt_mul hp, Nat.mul_comm, ← hk]; exact hx
  have hd := Nat.div_add_mod x (2 ^ m)
  have hr := Nat.mod_lt x hp
  have e : 18446744073709551615 - x = (2 ^ m - 1 - x % 2 ^ m) + 2 ^ m * (k - 1 - x / 2 ^ m) := by
    have h1 : 2 ^ m * (k - 1 - x / 2 ^ m) = 2 ^ m * k - 2 ^ m - 2 ^ m * (x / 2 ^ m) := by
      rw [Nat.mul_sub, Nat.mul_sub, Nat.mul_one]
    have h2 : 2 ^ m * (x / 2 ^ m) + 2 ^ m ≤ 2 ^ m * k := by
      rw [← Nat.mul_succ]
      exact Nat.mul_le_mul_left _ hq
    rw [h1, ← hk]
    rw [← hk] at h2
    omega
  rw [e, Nat.add_mul_mod_self_left, Nat.mod_eq_of_lt (by omega)]

theorem flipW_words (n : Nat) (L : List Nat) (hl : L.length = (n + 63) / 64) (hw : ∀ x ∈ L, x < 2 ^ 64) : flipW n L = wordsOf (flipped (bitsOf n L)) := by
  have hfl : (flipped (bitsOf n L)).length = n := by simp [flipped, bitsOf_len]
  apply List.ext_getElem?
  intro j
  by_cases hj : j < L.length
  · rw [wordsOf_get _ _ (by rw [hfl]; omega)]
    have hx : L.getD j 0 < 2 ^ 64 := by
      rw [List.getD_eq_getElem?_getD, List.getElem?_eq_getElem hj, Option.getD_some]
      exact hw _ (List.getElem_mem hj)
    have hb := wordsOf_bitsOf_get n L j (by omega)
    rw [wordsOf_get _ _ (by rw [bitsOf_len]; omega)] at hb
    have hb' := Option.some.inj hb
    have e : ((flipped (bitsOf n L)).drop (64 * j)).take 64 = flipped (((bitsOf n L).drop (64 * j)).take 64) := by simp [flipped, List.map_drop, List.map_take]
    have hv := val_flipped (((bitsOf n L).drop (64 * j)).take 64) (((bitsOf_bits n L).drop _).take _)
    have hlen : (((bitsOf n L).drop (64 * j)).take 64).length = min 64 (n - 64 * j) := by rw [List.length_take, List.length_drop, bitsOf_len]
    rw [hb', hlen] at hv
    rw [e]
    simp only [flipW, List.getElem?_map, List.getElem?_range hj, Option.map_some]
    congr 1
    rw [mod_flip _ _ hx (Nat.min_le_left _ _)]
    omega
  · rw [List.getElem?_eq_none (by simp [flipW]; omega), List.getElem?_eq_none (by rw [wordsOf_len, hfl]; omega)]

theorem flipW_len (n : Nat) (L : List Nat) : (flipW n L).length = L.length := by simp [flipW]
theorem flipW_get (n : Nat) (L : List Nat) (j x : Nat) (h : L[j]? = some x) : (flipW n L)[j]? = some ((18446744073709551615 - x) % 2 ^ (min 64 (n - 64 * j))) := by
  have hj := (List.getElem?_eq_some_iff.1 h).1
  simp only [flipW, List.getElem?_map, List.getElem?_range hj, Option.map_some]
  rw [List.getD_eq_getElem?_getD, h, Option.getD_some]

end Go.Proofs.YtlbnngolcoefdaaDoor

/- Plain mathematics of the k-th bit 1 of a word, and of the k-th bit of a list of words. -/
namespace Go.Proofs.YtlbnngolcoefdaaDoor

/-- The odd part of a number. -/
theorem odd_part : ∀ (n x : Nat), 0 < x → x < 2 ^ n → ∃ i q, i < n ∧ x = 2 ^ (i + 1) * q + 2 ^ i
  | 0, x, h0, h => by simp at h; omega
  | n + 1, x, h0, h => by
    by_cases h2 : x % 2 = 1
    · exact ⟨0, x / 2, by omega, by simp; omega⟩
    · obtain ⟨i, q, hi, e⟩ := odd_part n (x / 2) (by omega) (by rw [Nat.pow_succ] at h; omega)
      refine ⟨i + 1, q, by omega, ?_⟩
      have e2 : x = 2 * (x / 2) := by omega
      rw [e2, e, Nat.mul_add, ← Nat.mul_assoc]
      rw [Nat.pow_succ 2 (i + 1), Nat.mul_comm (2 ^ (i + 1)) 2, Nat.pow_succ 2 i, Nat.mul_comm (2 ^ i) 2]

theorem and_parts (k a b a' b' : Nat) (hb : b < 2 ^ k) (hb' : b' < 2 ^ k) : (2 ^ k * a + b) &&& (2 ^ k * a' + b') = 2 ^ k * (a &&& a') + (b &&& b') := by
  have hbb : b &&& b' < 2 ^ k := Nat.lt_of_le_of_lt Nat.and_le_left hb
  apply Nat.eq_of_testBit_eq
  intro j
  rw [Nat.testBit_and, Nat.testBit_two_pow_mul_add _ hb, Nat.testBit_two_pow_mul_add _ hb', Nat.testBit_two_pow_mul_add _ hbb]
  by_cases hj : j < k
  · rw [if_pos hj, if_pos hj, if_pos hj, Nat.testBit_and]
  · rw [if_neg hj, if_neg hj, if_neg hj, Nat.testBit_and]

theorem and_pred (i q : Nat) : (2 ^ (i + 1) * q + 2 ^ i) &&& (2 ^ (i + 1) * q + 2 ^ i - 1) = 2 ^ (i + 1) * q := by
  have hp := Nat.two_pow_pos i
  have h2 : 2 ^ (i + 1) = 2 * 2 ^ i := by rw [Nat.pow_succ, Nat.mul_comm]
  rw [show 2 ^ (i + 1) * q + 2 ^ i - 1 = 2 ^ (i + 1) * q + (2 ^ i - 1) by omega, and_parts _ _ _ _ _ (by omega) (by omega), Nat.and_self, Nat.and_two_pow_sub_one_eq_mod, Nat.mod_self, Nat.add_zero]

theorem and_compl (m q : Nat) (h : q < 2 ^ m) : q &&& (2 ^ m - 1 - q) = 0 := by
  apply Nat.eq_of_testBit_eq
  intro j
  rw [show 2 ^ m - 1 - q = 2 ^ m - (q + 1) by omega, Nat.testBit_and, Nat.testBit_two_pow_sub_succ h, Nat.zero_testBit]
  cases q.testBit j <;> simp

theorem and_neg (n i q : Nat) (hi : i < n) (h : 2 ^ (i + 1) * q + 2 ^ i < 2 ^ n) : (2 ^ (i + 1) * q + 2 ^ i) &&& (2 ^ n - (2 ^ (i + 1) * q + 2 ^ i)) = 2 ^ i := by
  have hp := Nat.two_pow_pos i
  have h2 : 2 ^ (i + 1) = 2 * 2 ^ i := by rw [Nat.pow_succ, Nat.mul_comm]
  obtain ⟨m, rfl⟩ : ∃ m, n = i + 1 + m := ⟨n - (i + 1), by omega⟩
  have hn : 2 ^ (i + 1 + m) = 2 ^ (i + 1) * 2 ^ m := Nat.pow_add _ _ _
  have hq : q < 2 ^ m := by
    rw [hn] at h
    exact Nat.lt_of_mul_lt_mul_left (a := 2 ^ (i + 1)) (by omega)
  obtain ⟨r, hr⟩ : ∃ r, 2 ^ m = q + 1 + r := ⟨2 ^ m - (q + 1), by omega⟩
  have e : 2 ^ (i + 1 + m) - (2 ^ (i + 1) * q + 2 ^ i) = 2 ^ (i + 1) * r + 2 ^ i := by
    rw [hn, hr, Nat.mul_add, Nat.mul_add, Nat.mul_one]
    omega
  have hr2 : r = 2 ^ m - 1 - q := by omega
  rw [e, and_parts _ _ _ _ _ (by omega) (by omega), hr2, and_compl m q hq, Nat.mul_zero, Nat.zero_add, Nat.and_self]

/-- What is left of a word after its first k bits 1 have been cleared: those from p on. -/
def Cleared (x k y : Nat) : Prop := ∃ p, y = x / 2 ^ p * 2 ^ p ∧ popN p x = k

theorem cleared_zero (x : Nat) : Cleared x 0 x := ⟨0, by simp, rfl⟩

theorem popN_mul (d z : Nat) : popN d (2 ^ d * z) = 0 := by
  rw [← popN_mod, Nat.mul_mod_right]
  induction d with
  | zero => rfl
  | succ d ih => rw [popN, ih]

theorem cleared_low {x k y i q : Nat} (h : Cleared x k y) (hy : y = 2 ^ (i + 1) * q + 2 ^ i) : popN i x = k ∧ x / 2 ^ i % 2 = 1 ∧ Cleared x (k + 1) (2 ^ (i + 1) * q) := by
  obtain ⟨p, hp, hk⟩ := h
  have hi0 := Nat.two_pow_pos i
  have h2 : 2 ^ (i + 1) = 2 ^ i * 2 := Nat.pow_succ _ _
  have hy2 : y = 2 ^ i * (2 * q + 1) := by rw [hy, h2, Nat.mul_add, Nat.mul_one, Nat.mul_assoc]
  have hpi : p ≤ i := by
    rcases Nat.lt_or_ge i p with hlt | hge
    · exfalso
      obtain ⟨d, rfl⟩ : ∃ d, p = i + 1 + d := ⟨p - (i + 1), by omega⟩
      have e : 2 ^ i * (2 * q + 1) = 2 ^ i * (2 * (x / 2 ^ (i + 1 + d) * 2 ^ d)) := by
        rw [← hy2, hp, Nat.pow_add, h2]
        simp only [Nat.mul_comm, Nat.mul_left_comm, Nat.mul_assoc]
      have := Nat.eq_of_mul_eq_mul_left hi0 e
      omega
    · exact hge
  obtain ⟨d, rfl⟩ : ∃ d, i = p + d := ⟨i - p, by omega⟩
  have hp0 := Nat.two_pow_pos p
  have hd0 := Nat.two_pow_pos d
  have hx : x / 2 ^ p = 2 ^ d * (2 * q + 1) := by
    have : 2 ^ p * (x / 2 ^ p) = 2 ^ p * (2 ^ d * (2 * q + 1)) := by rw [Nat.mul_comm (2 ^ p), ← hp, hy2, Nat.pow_add, Nat.mul_assoc]
    exact Nat.eq_of_mul_eq_mul_left hp0 this
  have hxi : x / 2 ^ (p + d) = 2 * q + 1 := by
    rw [Nat.pow_add, ← Nat.div_div_eq_div_mul, hx, Nat.mul_div_cancel_left _ hd0]
  have hpop : popN (p + d) x = k := by rw [popN_add, hk, hx, popN_mul, Nat.add_zero]
  refine ⟨hpop, by rw [hxi]; omega, p + d + 1, ?_, ?_⟩
  · rw [Nat.pow_succ, ← Nat.div_div_eq_div_mul, hxi, show (2 * q + 1) / 2 = q by omega, Nat.mul_comm]
  · rw [popN_succ, hpop, hxi]
    omega

theorem cleared_some {x k y n : Nat} (h : Cleared x k y) (hx : x < 2 ^ n) (hk : k < popN n x) : 0 < y ∧ y < 2 ^ n := by
  obtain ⟨p, hp, hk2⟩ := h
  have hle : y ≤ x := by rw [hp]; exact Nat.div_mul_le_self _ _
  refine ⟨?_, by omega⟩
  rcases Nat.eq_zero_or_pos y with h0 | h0
  · exfalso
    rw [h0] at hp
    have hz : x / 2 ^ p = 0 := by
      rcases Nat.mul_eq_zero.1 hp.symm with h | h
      · exact h
      · have := Nat.two_pow_pos p
        omega
    have e1 : popN n x ≤ popN (n + p) x := by rw [popN_add]; omega
    rw [Nat.add_comm n p, popN_add, hz, hk2] at e1
    have e2 : popN n 0 = 0 := by have := popN_mul n 0; rwa [Nat.mul_zero] at this
    omega
  · exact h0

/-- Where the k-th of the first n bits that are b stands. -/
def selN (L : List Nat) (b : Int) (n k : Nat) : Option Nat := (List.range n).find? fun i => decide ((bitN L i : Int) = b ∧ cnt L b i = k)

theorem cnt_mono (L : List Nat) (b : Int) (i : Nat) : ∀ d, cnt L b i ≤ cnt L b (i + d)
  | 0 => Nat.le_refl _
  | d + 1 => by
    have := cnt_mono L b i d
    rw [← Nat.add_assoc, cnt]
    omega

theorem selN_some (L : List Nat) (b : Int) (n k i : Nat) (hi : i < n) (hb : (bitN L i : Int) = b) (hc : cnt L b i = k) : selN L b n k = some i := by
  unfold selN
  rw [List.find?_range_eq_some]
  refine ⟨by simp [hb, hc], by simpa using hi, fun j hj => ?_⟩
  simp only [Bool.not_eq_true', decide_eq_false_iff_not]
  rintro ⟨h1, h2⟩
  have e1 := cnt_yes L b j h1
  obtain ⟨d, rfl⟩ : ∃ d, i = j + 1 + d := ⟨i - (j + 1), by omega⟩
  have := cnt_mono L b (j + 1) d
  omega

theorem selN_none (L : List Nat) (b : Int) (n k : Nat) (h : cnt L b n ≤ k) : selN L b n k = none := by
  unfold selN
  rw [List.find?_eq_none]
  intro i hi
  have hi' : i < n := by simpa using hi
  simp only [decide_eq_true_eq]
  rintro ⟨h1, h2⟩
  have e1 := cnt_yes L b i h1
  obtain ⟨d, rfl⟩ : ∃ d, n = i + 1 + d := ⟨n - (i + 1), by omega⟩
  have := cnt_mono L b (i + 1) d
  omega

/-- What Select is to return. -/
def selV (N : Int) (L : List Nat) (b k : Int) : Int := if okB N L = true ∧ (b = 0 ∨ b = 1) ∧ 0 ≤ k then (match selN L b N.toNat k.toNat with | some i => (i : Int) | none => -1) else -1

end Go.Proofs.YtlbnngolcoefdaaDoor

/- Plain mathematics: the bits of a flipped vector, and bits behind the last one. -/
namespace Go.Proofs.YtlbnngolcoefdaaDoor

theorem bit_test (x r : Nat) : x / 2 ^ r % 2 = if x.testBit r = true then 1 else 0 := by
  rw [Nat.testBit_eq_decide_div_mod_eq]
  have := Nat.mod_lt (x / 2 ^ r) (show 0 < 2 by omega)
  by_cases h : x / 2 ^ r % 2 = 1
  · simp [h]
  · simp [h]; omega

theorem bitN_flip (n : Nat) (L : List Nat) (hl : L.length = (n + 63) / 64) (hw : ∀ x ∈ L, x < 2 ^ 64) (i : Nat) : bitN (flipW n L) i = if i < n then 1 - bitN L i else 0 := by
  unfold bitN
  by_cases hj : i / 64 < L.length
  · obtain ⟨x, hx⟩ : ∃ x, L[i / 64]? = some x := ⟨_, List.getElem?_eq_getElem hj⟩
    have hx64 := hw x (List.mem_of_getElem? hx)
    rw [List.getD_eq_getElem?_getD, List.getD_eq_getElem?_getD, flipW_get n L _ x hx, hx, Option.getD_some, Option.getD_some, bit_test, bit_test, Nat.testBit_mod_two_pow, show 18446744073709551615 - x = 2 ^ 64 - (x + 1) by omega, Nat.testBit_two_pow_sub_succ hx64]
    by_cases hi : i < n
    · rw [if_pos hi, decide_eq_true (show i % 64 < min 64 (n - 64 * (i / 64)) by omega), decide_eq_true (show i % 64 < 64 by omega)]
      cases x.testBit (i % 64) <;> rfl
    · rw [if_neg hi, decide_eq_false (show ¬ i % 64 < min 64 (n - 64 * (i / 64)) by omega)]
      simp
  · rw [List.getD_eq_getElem?_getD, List.getElem?_eq_none (by rw [flipW_len]; omega), Option.getD_none, if_neg (by omega)]
    simp

theorem cnt_flip (n : Nat) (L : List Nat) (hl : L.length = (n + 63) / 64) (hw : ∀ x ∈ L, x < 2 ^ 64) : ∀ i, i ≤ n → cnt (flipW n L) 1 i = cnt L 0 i
  | 0, _ => rfl
  | i + 1, h => by
    have e := bitN_flip n L hl hw i
    rw [if_pos (by omega)] at e
    have hb := bitN_lt L i
    rw [cnt, cnt, cnt_flip n L hl hw i (by omega), e]
    by_cases h0 : bitN L i = 0
    · rw [if_pos (by omega), if_pos (by omega)]
    · rw [if_neg (by omega), if_neg (by omega)]

end Go.Proofs.YtlbnngolcoefdaaDoor
