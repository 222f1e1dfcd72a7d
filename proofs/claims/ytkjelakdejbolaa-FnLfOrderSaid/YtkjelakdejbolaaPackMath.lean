/- Plain mathematics of packed integers. Nothing of the program and nothing of the model stands here. -/
import Derived.Test.YtkjelakdejbolaaJoinMath
namespace Go.Proofs.Ytkjelakdejbolaa

/-- One round of reading a field out of units of s bits. -/
theorem field_round (V a g s x m : Nat) (hs : 0 < s) (hx : x = V / 2 ^ (s * ((a + g) / s)) % 2 ^ s) (hm : m = V / 2 ^ a % 2 ^ (min g 64)) :
    m ||| x / 2 ^ ((a + g) % s) * 2 ^ g % 2 ^ 64 = V / 2 ^ a % 2 ^ (min (g + (s - (a + g) % s)) 64) := by
  have hf := Nat.mod_lt (a + g) hs
  have hd := Nat.div_add_mod (a + g) s
  generalize (a + g) % s = f at *
  generalize s * ((a + g) / s) = u at *
  subst hx hm
  apply Nat.eq_of_testBit_eq
  intro i
  rw [Nat.testBit_or, Nat.testBit_mod_two_pow, Nat.testBit_mod_two_pow, Nat.testBit_mod_two_pow, Nat.testBit_div_two_pow, Nat.mul_comm, Nat.testBit_two_pow_mul, Nat.testBit_div_two_pow, Nat.testBit_mod_two_pow, Nat.testBit_div_two_pow]
  by_cases h64 : i < 64
  · by_cases hg : i < g
    · have h1 : ¬ g ≤ i := by omega
      have h2 : i < min g 64 := by omega
      have h3 : i < min (g + (s - f)) 64 := by omega
      simp [h1, h2, h3]
    · have h1 : g ≤ i := by omega
      have h2 : ¬ i < min g 64 := by omega
      by_cases h3 : i < g + (s - f)
      · have h4 : i < min (g + (s - f)) 64 := by omega
        have h5 : i - g + f < s := by omega
        have h6 : i - g + f + u = i + a := by omega
        simp [h1, h2, h4, h5, h6, h64]
      · have h4 : ¬ i < min (g + (s - f)) 64 := by omega
        have h5 : ¬ i - g + f < s := by omega
        simp [h2, h4, h5]
  · have h2 : ¬ i < min g 64 := by omega
    have h4 : ¬ i < min (g + (s - f)) 64 := by omega
    simp [h2, h4, h64]

theorem field_end (V a g wd : Nat) (hg : wd ≤ g) (hw : wd ≤ 64) : V / 2 ^ a % 2 ^ (min g 64) % 2 ^ wd = V / 2 ^ a % 2 ^ wd := by
  rw [Nat.mod_mod_of_dvd _ (Nat.pow_dvd_pow 2 (by omega))]

/-- The bits of a list of bits, out of its number. -/
theorem val_bit (B : List Int) (hB : IsBits B) (j : Nat) (h : j < B.length) : B[j]? = some ((val B / 2 ^ j % 2 : Nat) : Int) := by
  have e1 : val B = val (B.take j) + 2 ^ j * val (B.drop j) := by
    conv => lhs; rw [← List.take_append_drop j B]
    rw [val_append, List.length_take, Nat.min_eq_left (by omega)]
  have h1 : val (B.take j) < 2 ^ j := by
    have := val_lt _ (hB.take j)
    rwa [List.length_take, Nat.min_eq_left (by omega)] at this
  have e2 : val B / 2 ^ j = val (B.drop j) := by
    rw [e1, Nat.add_mul_div_left _ _ (Nat.two_pow_pos _), Nat.div_eq_of_lt h1, Nat.zero_add]
  have hb := hB B[j] (List.getElem_mem h)
  rw [e2, List.drop_eq_getElem_cons h, val, List.getElem?_eq_getElem h]
  congr 1
  omega

/-- Digit by digit from above. -/
theorem field_down (V a d : Nat) : V / 2 ^ a % 2 ^ (d + 1) = 2 * (V / 2 ^ (a + 1) % 2 ^ d) + V / 2 ^ a % 2 := by
  rw [Nat.pow_succ 2 d, Nat.mul_comm (2 ^ d), Nat.mod_mul, Nat.pow_succ, ← Nat.div_div_eq_div_mul, Nat.add_comm]

/-- The binary digits of a number, the least first. -/
def numBits (wd : Nat) (n : Int) : List Int := (List.range wd).map fun i => ((n.toNat / 2 ^ i % 2 : Nat) : Int)
theorem numBits_len (wd : Nat) (n : Int) : (numBits wd n).length = wd := by simp [numBits]
theorem numBits_bits (wd : Nat) (n : Int) : IsBits (numBits wd n) := by
  intro b hb
  simp only [numBits, List.mem_map] at hb
  obtain ⟨i, _, rfl⟩ := hb
  have := Nat.mod_lt (n.toNat / 2 ^ i) (show 0 < 2 by decide)
  omega
theorem numBits_val (wd : Nat) (n : Int) : val (numBits wd n) = n.toNat % 2 ^ wd := val_digits n.toNat wd
theorem numBits_succ (wd : Nat) (n : Int) : numBits (wd + 1) n = numBits wd n ++ [((n.toNat / 2 ^ wd % 2 : Nat) : Int)] := by simp [numBits, List.range_succ]

/-- The bits of a list of numbers, and their number. -/
def packBits (wd : Nat) (L : List Int) : List Int := (L.map (numBits wd)).flatten
def packNum (wd : Nat) (L : List Int) : Nat := val (packBits wd L)
theorem packBits_nil (wd : Nat) : packBits wd [] = [] := rfl
theorem packBits_snoc (wd : Nat) (L : List Int) (n : Int) : packBits wd (L ++ [n]) = packBits wd L ++ numBits wd n := by simp [packBits]
theorem packBits_append (wd : Nat) (L M : List Int) : packBits wd (L ++ M) = packBits wd L ++ packBits wd M := by simp [packBits]
theorem packBits_cons (wd : Nat) (n : Int) (M : List Int) : packBits wd (n :: M) = numBits wd n ++ packBits wd M := by simp [packBits]
theorem packBits_len (wd : Nat) (L : List Int) : (packBits wd L).length = L.length * wd := by
  induction L with
  | nil => simp [packBits]
  | cons n L ih =>
    have e : packBits wd (n :: L) = numBits wd n ++ packBits wd L := by simp [packBits]
    rw [e, List.length_append, numBits_len, ih, List.length_cons, Nat.succ_mul, Nat.add_comm]
theorem packBits_bits (wd : Nat) (L : List Int) : IsBits (packBits wd L) := by
  intro b hb
  simp only [packBits, List.mem_flatten, List.mem_map] at hb
  obtain ⟨l, ⟨n, _, rfl⟩, h⟩ := hb
  exact numBits_bits wd n b h
theorem packNum_lt (wd : Nat) (L : List Int) : packNum wd L < 2 ^ (L.length * wd) := by
  have h := val_lt _ (packBits_bits wd L)
  rwa [packBits_len] at h
theorem packNum_nil (wd : Nat) : packNum wd [] = 0 := rfl
theorem packNum_snoc (wd : Nat) (L : List Int) (n : Nat) (h : n < 2 ^ wd) : packNum wd (L ++ [(n : Int)]) = packNum wd L + 2 ^ (L.length * wd) * n := by
  unfold packNum
  rw [packBits_snoc, val_append, packBits_len, numBits_val, Int.toNat_natCast, Nat.mod_eq_of_lt h]
theorem packWords (wd : Nat) (L : List Int) : wordsOf (packBits wd L) = digits ((L.length * wd + 63) / 64) (packNum wd L) := by
  rw [wordsOf_digits _ (packBits_bits wd L), packBits_len]; rfl

/-- Number k of the packed ones. -/
theorem packNum_get (wd : Nat) (L : List Int) (hL : ∀ n ∈ L, 0 ≤ n ∧ n < 2 ^ wd) (k : Nat) (h : k < L.length) : ((packNum wd L / 2 ^ (k * wd) % 2 ^ wd : Nat) : Int) = L[k] := by
  have e : L = L.take k ++ (L[k] :: L.drop (k + 1)) := by rw [← List.drop_eq_getElem_cons h, List.take_append_drop]
  have hb := hL L[k] (List.getElem_mem h)
  have e1 : packBits wd L = packBits wd (L.take k) ++ (numBits wd L[k] ++ packBits wd (L.drop (k + 1))) := by
    conv => lhs; rw [e]
    rw [packBits_append, packBits_cons]
  have h1 := packNum_lt wd (L.take k)
  have hk : (L.take k).length = k := by rw [List.length_take]; omega
  have h2 : L[k].toNat < 2 ^ wd := by
    have h3 : ((L[k].toNat : Nat) : Int) < ((2 ^ wd : Nat) : Int) := by rw [Int.toNat_of_nonneg hb.1]; simpa using hb.2
    exact Int.ofNat_lt.1 h3
  have e2 : packNum wd L = packNum wd (L.take k) + 2 ^ (k * wd) * (L[k].toNat + 2 ^ wd * packNum wd (L.drop (k + 1))) := by
    unfold packNum
    rw [e1, val_append, val_append, packBits_len, numBits_val, numBits_len, Nat.mod_eq_of_lt h2, hk]
  rw [hk] at h1
  rw [e2, Nat.add_mul_div_left _ _ (Nat.two_pow_pos _), Nat.div_eq_of_lt h1, Nat.zero_add, Nat.add_mul_mod_self_left, Nat.mod_eq_of_lt h2, Int.toNat_of_nonneg hb.1]

/-- The numbers of a packed number. -/
def unpack (wd N V : Nat) : List Int := (List.range N).map fun i => ((V / 2 ^ (i * wd) % 2 ^ wd : Nat) : Int)
theorem unpack_len (wd N V : Nat) : (unpack wd N V).length = N := by simp [unpack]
theorem unpack_get (wd N V i : Nat) (h : i < N) : (unpack wd N V)[i]? = some ((V / 2 ^ (i * wd) % 2 ^ wd : Nat) : Int) := by simp [unpack, h]
theorem unpack_succ (wd N V : Nat) : unpack wd (N + 1) V = unpack wd N V ++ [((V / 2 ^ (N * wd) % 2 ^ wd : Nat) : Int)] := by simp [unpack, List.range_succ]

/-- A number laid in behind those that are there: what the words become. -/
theorem digits_lay (T v f s n : Nat) (hs : s < 64) (hv : v < 2 ^ (64 * f + s)) (hn : n < 2 ^ 32) (hf : f < T) :
    (n * 2 ^ s / 2 ^ 64 = 0 → digits T (v + 2 ^ (64 * f + s) * n) = (digits T v).set f (v / 2 ^ (64 * f) % 2 ^ 64 ||| n * 2 ^ s % 2 ^ 64)) ∧
    digits T (v + 2 ^ (64 * f + s) * n) = ((digits T v).set f (v / 2 ^ (64 * f) % 2 ^ 64 ||| n * 2 ^ s % 2 ^ 64)).set (f + 1) (n * 2 ^ s / 2 ^ 64) ∧ (f + 1 < T → (digits T v)[f + 1]? = some 0) := by
  obtain ⟨h1, h2, h3⟩ := digits_put T v f s n hs hv (Nat.lt_of_lt_of_le hn (by decide)) hf
  have hor : v / 2 ^ (64 * f) % 2 ^ 64 ||| n * 2 ^ s % 2 ^ 64 = v / 2 ^ (64 * f) % 2 ^ 64 + n * 2 ^ s % 2 ^ 64 := by
    obtain ⟨q, hq⟩ : ∃ q, 2 ^ 64 = 2 ^ s * q := ⟨2 ^ (64 - s), by rw [← Nat.pow_add, show s + (64 - s) = 64 by omega]⟩
    have hm : n * 2 ^ s % 2 ^ 64 % 2 ^ s = 0 := by
      rw [hq, Nat.mod_mul_right_mod, Nat.mul_mod_left]
    rw [Nat.or_comm, nat_or_add _ _ _ hm h2, Nat.add_comm]
  have h4 : f + 1 < T → (digits T v)[f + 1]? = some 0 := fun hT => by rw [digits_get _ _ _ hT, h3 _ (by omega)]
  rw [hor]
  refine ⟨fun h0 => ?_, h1, h4⟩
  rw [h1, h0]
  apply List.ext_getElem?
  intro j
  rw [List.getElem?_set]
  by_cases hj : f + 1 = j
  · subst hj
    rw [if_pos rfl, List.length_set, digits_len]
    by_cases hT : f + 1 < T
    · rw [if_pos hT, List.getElem?_set_ne (by omega), h4 hT]
    · rw [if_neg hT, List.getElem?_eq_none (by rw [List.length_set, digits_len]; omega)]
  · rw [if_neg hj]

/-- Where something is left over for the next word there is one. -/
theorem lay_room (T k N wd n f s : Nat) (hk : k < N) (hT : T = (N * wd + 63) / 64) (hf : f = k * wd / 64) (hs : s = k * wd % 64) (hn : n < 2 ^ wd) (h : n * 2 ^ s / 2 ^ 64 ≠ 0) : f + 1 < T := by
  have h1 : 2 ^ 64 ≤ n * 2 ^ s := by
    rcases Nat.lt_or_ge (n * 2 ^ s) (2 ^ 64) with h2 | h2
    · exact absurd (Nat.div_eq_of_lt h2) h
    · exact h2
  have h3 : n * 2 ^ s < 2 ^ (wd + s) := by
    rw [Nat.pow_add]
    exact Nat.mul_lt_mul_of_pos_right hn (Nat.two_pow_pos _)
  have h4 : 64 < wd + s := by
    rcases Nat.lt_or_ge 64 (wd + s) with h5 | h5
    · exact h5
    · have := Nat.pow_le_pow_right (show 0 < 2 by decide) h5
      omega
  have h5 : (k + 1) * wd ≤ N * wd := Nat.mul_le_mul_right _ hk
  rw [Nat.succ_mul] at h5
  omega
/-- A number that is not 0 has a word. -/
theorem lay_first (T k N wd n : Nat) (hk : k < N) (hT : T = (N * wd + 63) / 64) (hn : n < 2 ^ wd) (h : n ≠ 0) : k * wd / 64 < T := by
  have h5 : (k + 1) * wd ≤ N * wd := Nat.mul_le_mul_right _ hk
  rw [Nat.succ_mul] at h5
  have : 0 < wd := by
    rcases Nat.eq_zero_or_pos wd with h6 | h6
    · subst h6; simp at hn; omega
    · exact h6
  omega

end Go.Proofs.Ytkjelakdejbolaa
