import Derived.Test.YtoehgcakfblblaaBitMath
/- More plain mathematics of bit vectors. -/
namespace Go.Proofs.Ytoehgcakfblblaa

/-- What BitAt is to return. -/
def bitAtV (N : Int) (L : List Nat) (i : Int) : Int := if okB N L = true ∧ 0 ≤ i ∧ i < N then (bitN L i.toNat : Int) else -1

theorem okB_nat {N : Int} {L : List Nat} (h : okB N L = true) : ∃ n : Nat, N = n ∧ n ≤ 5000 ∧ L.length = (n + 63) / 64 ∧ tailB n L = true := by
  unfold okB at h
  rw [Bool.and_eq_true, decide_eq_true_iff] at h
  obtain ⟨⟨h0, h1, h2⟩, h3⟩ := h
  exact ⟨N.toNat, by omega, by omega, h2, h3⟩

end Go.Proofs.Ytoehgcakfblblaa

/- Plain mathematics of joined bit vectors: words as the digits of one number. -/
namespace Go.Proofs.Ytoehgcakfblblaa

theorem nat_or_add (i x y : Nat) (hx : x % 2 ^ i = 0) (hy : y < 2 ^ i) : x ||| y = x + y := by
  obtain ⟨q, hq⟩ : ∃ q, x = 2 ^ i * q := ⟨x / 2 ^ i, by have := Nat.div_add_mod x (2 ^ i); omega⟩
  rw [hq, ← Nat.two_pow_add_eq_or_of_lt hy]

/-- The first T digits of a number to the base 2 to the 64. -/
def digits (T v : Nat) : List Nat := (List.range T).map fun j => v / 2 ^ (64 * j) % 2 ^ 64
theorem digits_len (T v : Nat) : (digits T v).length = T := by simp [digits]
theorem digits_get (T v j : Nat) (h : j < T) : (digits T v)[j]? = some (v / 2 ^ (64 * j) % 2 ^ 64) := by simp [digits, h]

/-- The words of bits are the digits of their number. -/
theorem wordsOf_digits (B : List Int) (hB : IsBits B) : wordsOf B = digits ((B.length + 63) / 64) (val B) := by
  apply List.ext_getElem?
  intro j
  by_cases hj : j < (B.length + 63) / 64
  · rw [wordsOf_get _ _ hj, digits_get _ _ _ hj]
    congr 1
    have e1 : val B = val (B.take (64 * j)) + 2 ^ (64 * j) * val (B.drop (64 * j)) := by
      conv => lhs; rw [← List.take_append_drop (64 * j) B]
      rw [val_append, List.length_take, Nat.min_eq_left (by omega)]
    have h1 : val (B.take (64 * j)) < 2 ^ (64 * j) := by
      have := val_lt _ (hB.take (64 * j))
      rwa [List.length_take, Nat.min_eq_left (by omega)] at this
    have e2 : val B / 2 ^ (64 * j) = val (B.drop (64 * j)) := by
      rw [e1, Nat.add_mul_div_left _ _ (Nat.two_pow_pos _), Nat.div_eq_of_lt h1, Nat.zero_add]
    rw [e2]
    by_cases h64 : 64 ≤ (B.drop (64 * j)).length
    · have e3 : val (B.drop (64 * j)) = val ((B.drop (64 * j)).take 64) + 2 ^ 64 * val ((B.drop (64 * j)).drop 64) := by
        conv => lhs; rw [← List.take_append_drop 64 (B.drop (64 * j))]
        rw [val_append, List.length_take, Nat.min_eq_left h64]
      have h3 : val ((B.drop (64 * j)).take 64) < 2 ^ 64 := by
        have := val_lt _ ((hB.drop (64 * j)).take 64)
        rwa [List.length_take, Nat.min_eq_left h64] at this
      rw [e3, Nat.add_mul_mod_self_left, Nat.mod_eq_of_lt h3]
    · rw [List.take_of_length_le (by omega)]
      have h3 : val (B.drop (64 * j)) < 2 ^ 64 := by
        have := val_lt _ (hB.drop (64 * j))
        exact Nat.lt_of_lt_of_le this (Nat.pow_le_pow_right (by omega) (by omega))
      rw [Nat.mod_eq_of_lt h3]
  · rw [List.getElem?_eq_none (by rw [wordsOf_len]; omega), List.getElem?_eq_none (by rw [digits_len]; omega)]

/-- A word laid in at bit 64 f + s of a number that ends before it: what the digits become. -/
theorem digits_put (T v f s x : Nat) (hs : s < 64) (hv : v < 2 ^ (64 * f + s)) (hx : x < 2 ^ 64) (hf : f < T) :
    digits T (v + 2 ^ (64 * f + s) * x) = ((digits T v).set f (v / 2 ^ (64 * f) % 2 ^ 64 + x * 2 ^ s % 2 ^ 64)).set (f + 1) (x * 2 ^ s / 2 ^ 64) ∧ v / 2 ^ (64 * f) % 2 ^ 64 < 2 ^ s ∧ (∀ j, f < j → v / 2 ^ (64 * j) % 2 ^ 64 = 0) := by
  have hp : 0 < 2 ^ (64 * f) := Nat.two_pow_pos _
  have hd : v / 2 ^ (64 * f) < 2 ^ s := by
    rw [Nat.div_lt_iff_lt_mul hp, ← Nat.pow_add, Nat.add_comm]; exact hv
  have hps : 2 ^ s ≤ 2 ^ 63 := Nat.pow_le_pow_right (by omega) (by omega)
  have hd64 : v / 2 ^ (64 * f) % 2 ^ 64 = v / 2 ^ (64 * f) := Nat.mod_eq_of_lt (by omega)
  have hzero : ∀ j, f < j → v / 2 ^ (64 * j) = 0 := fun j hj => by
    apply Nat.div_eq_of_lt
    exact Nat.lt_of_lt_of_le hv (Nat.pow_le_pow_right (by omega) (by omega))
  refine ⟨?_, by rw [hd64]; exact hd, fun j hj => by rw [hzero j hj]⟩
  have hsplit : (v + 2 ^ (64 * f + s) * x) / 2 ^ (64 * f) = v / 2 ^ (64 * f) + 2 ^ s * x := by
    rw [Nat.pow_add, Nat.mul_assoc, Nat.add_mul_div_left _ _ hp]
  have hspos : 0 < 2 ^ s := Nat.two_pow_pos s
  obtain ⟨k, hk⟩ : ∃ k, 2 ^ 64 = 2 ^ s * k := ⟨2 ^ (64 - s), by rw [← Nat.pow_add]; congr 1; try omega⟩
  have hm1 : (2 ^ s * x) % 2 ^ 64 = 2 ^ s * (x % k) := by rw [hk, Nat.mul_mod_mul_left]
  have hkpos : 0 < k := by
    rcases Nat.eq_zero_or_pos k with h | h
    · rw [h, Nat.mul_zero] at hk; exact absurd hk (by decide)
    · exact h
  have hrest : v / 2 ^ (64 * f) + (2 ^ s * x) % 2 ^ 64 < 2 ^ 64 := by
    rw [hm1]
    have h1 : x % k + 1 ≤ k := Nat.mod_lt _ hkpos
    have h2 : 2 ^ s * (x % k + 1) ≤ 2 ^ s * k := Nat.mul_le_mul_left _ h1
    rw [← hk, Nat.mul_add, Nat.mul_one] at h2
    omega
  have hmod : (v / 2 ^ (64 * f) + 2 ^ s * x) % 2 ^ 64 = v / 2 ^ (64 * f) + 2 ^ s * x % 2 ^ 64 := by
    rw [Nat.add_mod, Nat.mod_eq_of_lt (show v / 2 ^ (64 * f) < 2 ^ 64 by omega), Nat.mod_eq_of_lt hrest]
  have hdiv : (v / 2 ^ (64 * f) + 2 ^ s * x) / 2 ^ 64 = 2 ^ s * x / 2 ^ 64 := by
    have e := Nat.div_add_mod (2 ^ s * x) (2 ^ 64)
    conv => lhs; rw [← e]
    rw [show v / 2 ^ (64 * f) + (2 ^ 64 * (2 ^ s * x / 2 ^ 64) + 2 ^ s * x % 2 ^ 64) = (v / 2 ^ (64 * f) + 2 ^ s * x % 2 ^ 64) + 2 ^ 64 * (2 ^ s * x / 2 ^ 64) by omega]
    rw [Nat.add_mul_div_left _ _ (by decide), Nat.div_eq_of_lt hrest, Nat.zero_add]
  apply List.ext_getElem?
  intro j
  by_cases hj : j < T
  · rw [digits_get _ _ _ hj, List.getElem?_set, List.length_set, digits_len, List.getElem?_set, digits_len]
    by_cases h1 : f + 1 = j
    · subst h1
      rw [if_pos rfl, if_pos hj]
      congr 1
      rw [show 2 ^ (64 * (f + 1)) = 2 ^ (64 * f) * 2 ^ 64 by rw [← Nat.pow_add]; congr 1, ← Nat.div_div_eq_div_mul, hsplit, hdiv, Nat.mul_comm x]
      apply Nat.mod_eq_of_lt
      rw [Nat.div_lt_iff_lt_mul (by decide)]
      exact Nat.lt_of_lt_of_le (Nat.mul_lt_mul_of_lt_of_le (show 2 ^ s < 2 ^ 64 by omega) (Nat.le_of_lt hx) (by decide)) (Nat.le_refl _)
    · rw [if_neg h1]
      by_cases h2 : f = j
      · subst h2
        rw [if_pos rfl, if_pos hj, hsplit, hmod, hd64, Nat.mul_comm x]
      · rw [if_neg h2, digits_get _ _ _ hj]
        congr 1
        rcases Nat.lt_or_ge j f with h3 | h3
        · obtain ⟨q, hq⟩ : ∃ q, 2 ^ (64 * f + s) = 2 ^ (64 * j) * (2 ^ 64 * q) := ⟨2 ^ (64 * f + s - 64 * j - 64), by rw [← Nat.pow_add, ← Nat.pow_add]; congr 1; omega⟩
          rw [hq, Nat.mul_assoc, Nat.add_mul_div_left _ _ (Nat.two_pow_pos _), Nat.mul_assoc, Nat.add_mul_mod_self_left]
        · have h4 : f + 1 < j := by omega
          rw [hzero j (by omega)]
          have hlt : v + 2 ^ (64 * f + s) * x < 2 ^ (64 * j) := by
            have ha : v + 2 ^ (64 * f + s) * x < 2 ^ (64 * f + s) * (x + 1) := by rw [Nat.mul_add, Nat.mul_one]; omega
            have hb : 2 ^ (64 * f + s) * (x + 1) ≤ 2 ^ (64 * f + s) * 2 ^ 64 := Nat.mul_le_mul_left _ hx
            rw [← Nat.pow_add] at hb
            exact Nat.lt_of_lt_of_le ha (Nat.le_trans hb (Nat.pow_le_pow_right (by omega) (by omega)))
          rw [Nat.div_eq_of_lt hlt]
  · rw [List.getElem?_eq_none (by rw [digits_len]; omega), List.getElem?_eq_none (by rw [List.length_set, List.length_set, digits_len]; omega)]

/-- The number of a valid bit vector: its bits, and its words as digits. -/
theorem valid_digits (n : Nat) (L : List Nat) (hl : L.length = (n + 63) / 64) (hw : ∀ x ∈ L, x < 2 ^ 64) (ht : tailB n L = true) : L = digits L.length (val (bitsOf n L)) := by
  have h := wordsOf_digits (bitsOf n L) (bitsOf_bits n L)
  rw [(words_back n L hl hw).2 ht, bitsOf_len, ← hl] at h
  exact h

/-- The number after k words of the second vector are laid in. -/
def joinNum (n : Nat) (L : List Nat) (m : Nat) (K : List Nat) (k : Nat) : Nat := val (bitsOf n L) + 2 ^ n * (val (bitsOf m K) % 2 ^ (64 * k))

theorem joinNum_zero (n : Nat) (L : List Nat) (m : Nat) (K : List Nat) : joinNum n L m K 0 = val (bitsOf n L) := by simp [joinNum, Nat.mod_one]
theorem joinNum_lt (n : Nat) (L : List Nat) (m : Nat) (K : List Nat) (k : Nat) : joinNum n L m K k < 2 ^ (n + 64 * k) := by
  have h1 := val_lt _ (bitsOf_bits n L)
  rw [bitsOf_len] at h1
  have h2 : val (bitsOf m K) % 2 ^ (64 * k) + 1 ≤ 2 ^ (64 * k) := Nat.mod_lt _ (Nat.two_pow_pos _)
  have h3 : 2 ^ n * (val (bitsOf m K) % 2 ^ (64 * k) + 1) ≤ 2 ^ n * 2 ^ (64 * k) := Nat.mul_le_mul_left _ h2
  rw [Nat.mul_add, Nat.mul_one, ← Nat.pow_add] at h3
  unfold joinNum
  omega
theorem joinNum_succ (n : Nat) (L : List Nat) (m : Nat) (K : List Nat) (k x : Nat) (hx : val (bitsOf m K) / 2 ^ (64 * k) % 2 ^ 64 = x) : joinNum n L m K (k + 1) = joinNum n L m K k + 2 ^ (n + 64 * k) * x := by
  unfold joinNum
  rw [show 64 * (k + 1) = 64 * k + 64 by omega, Nat.pow_add 2 (64 * k), Nat.mod_mul, hx, Nat.mul_add, Nat.pow_add, Nat.mul_assoc, Nat.add_assoc]
theorem joinNum_all (n : Nat) (L : List Nat) (m : Nat) (K : List Nat) (k : Nat) (hk : m ≤ 64 * k) : joinNum n L m K k = val (bitsOf n L ++ bitsOf m K) := by
  have h2 := val_lt _ (bitsOf_bits m K)
  rw [bitsOf_len] at h2
  unfold joinNum
  rw [val_append, bitsOf_len, Nat.mod_eq_of_lt (Nat.lt_of_lt_of_le h2 (Nat.pow_le_pow_right (by omega) hk))]

theorem join_bits (n : Nat) (L : List Nat) (m : Nat) (K : List Nat) : IsBits (bitsOf n L ++ bitsOf m K) := by
  intro b hb
  rcases List.mem_append.1 hb with h | h
  · exact bitsOf_bits _ _ b h
  · exact bitsOf_bits _ _ b h

/-- The words at the start: the first vector's, and then 0. -/
theorem join_start (n : Nat) (L : List Nat) (T : Nat) (hl : L.length = (n + 63) / 64) (hT : L.length ≤ T) (hw : ∀ x ∈ L, x < 2 ^ 64) (ht : tailB n L = true) : digits T (val (bitsOf n L)) = L ++ List.replicate (T - L.length) 0 := by
  have h := valid_digits n L hl hw ht
  have hv := val_lt _ (bitsOf_bits n L)
  rw [bitsOf_len] at hv
  apply List.ext_getElem?
  intro j
  by_cases hj : j < T
  · rw [digits_get _ _ _ hj]
    by_cases hjl : j < L.length
    · rw [List.getElem?_append_left hjl]
      conv => rhs; rw [h]
      rw [digits_get _ _ _ hjl]
    · rw [List.getElem?_append_right (by omega), List.getElem?_replicate, if_pos (by omega)]
      congr 1
      rw [Nat.div_eq_of_lt (Nat.lt_of_lt_of_le hv (Nat.pow_le_pow_right (by omega) (by omega)))]
  · rw [List.getElem?_eq_none (by rw [digits_len]; omega), List.getElem?_eq_none (by rw [List.length_append, List.length_replicate]; omega)]

/-- One round: what the two words become. -/
theorem join_round (n : Nat) (L : List Nat) (m : Nat) (K : List Nat) (T k x : Nat) (hl : K.length = (m + 63) / 64) (hw : ∀ x ∈ K, x < 2 ^ 64) (ht : tailB m K = true) (hx : K[k]? = some x) (hf : n / 64 + k < T) :
    digits T (joinNum n L m K (k + 1)) = ((digits T (joinNum n L m K k)).set (n / 64 + k) (joinNum n L m K k / 2 ^ (64 * (n / 64 + k)) % 2 ^ 64 ||| x * 2 ^ (n % 64) % 2 ^ 64)).set (n / 64 + k + 1) (x * 2 ^ (n % 64) / 2 ^ 64) ∧
    (n / 64 + k + 1 < T → (digits T (joinNum n L m K k))[n / 64 + k + 1]? = some 0) := by
  have hk := (List.getElem?_eq_some_iff.1 hx).1
  have hd := valid_digits m K hl hw ht
  have hxd : val (bitsOf m K) / 2 ^ (64 * k) % 2 ^ 64 = x := by
    have h1 : K[k]? = (digits K.length (val (bitsOf m K)))[k]? := by rw [← hd]
    rw [hx, digits_get _ _ _ hk] at h1
    exact (Option.some.inj h1).symm
  have e : n + 64 * k = 64 * (n / 64 + k) + n % 64 := by omega
  have hlt := joinNum_lt n L m K k
  rw [e] at hlt
  obtain ⟨h1, h2, h3⟩ := digits_put T (joinNum n L m K k) (n / 64 + k) (n % 64) x (by omega) hlt (hw x (List.mem_of_getElem? hx)) hf
  have hor : joinNum n L m K k / 2 ^ (64 * (n / 64 + k)) % 2 ^ 64 ||| x * 2 ^ (n % 64) % 2 ^ 64 = joinNum n L m K k / 2 ^ (64 * (n / 64 + k)) % 2 ^ 64 + x * 2 ^ (n % 64) % 2 ^ 64 := by
    obtain ⟨q, hq⟩ : ∃ q, 2 ^ 64 = 2 ^ (n % 64) * q := ⟨2 ^ (64 - n % 64), by rw [← Nat.pow_add, show n % 64 + (64 - n % 64) = 64 by omega]⟩
    have hm : x * 2 ^ (n % 64) % 2 ^ 64 % 2 ^ (n % 64) = 0 := by
      rw [hq, Nat.mod_mul_right_mod, Nat.mul_mod_left]
    rw [Nat.or_comm, nat_or_add _ _ _ hm h2, Nat.add_comm]
  rw [joinNum_succ n L m K k x hxd, e, h1, hor]
  refine ⟨rfl, fun hT => ?_⟩
  rw [digits_get _ _ _ hT, h3 _ (by omega)]

end Go.Proofs.Ytoehgcakfblblaa
