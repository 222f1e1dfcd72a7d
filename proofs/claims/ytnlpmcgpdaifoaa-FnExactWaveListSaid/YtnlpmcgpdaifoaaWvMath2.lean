import Derived.Test.YtnlpmcgpdaifoaaSelMath
/- Plain mathematics of the wavelet matrix: a list of levels, each the words of n bits; the numbers that they hold, where an index leads, and what is counted. Nothing of the program and nothing of the model stands here. -/
namespace Go.Proofs.Ytnlpmcgpdaifoaa

theorem cnt_mono' (L : List Nat) (b : Int) {i j : Nat} (h : i ≤ j) : cnt L b i ≤ cnt L b j := by
  obtain ⟨d, rfl⟩ : ∃ d, j = i + d := ⟨j - i, by omega⟩
  exact cnt_mono L b i d

/-- Where an index with the bit b leads. -/
def dn (n : Nat) (L : List Nat) (b i : Nat) : Nat := b * cnt L 0 n + cnt L (b : Int) i
theorem dn_mono (n : Nat) (L : List Nat) (b : Nat) {i j : Nat} (h : i ≤ j) : dn n L b i ≤ dn n L b j := Nat.add_le_add_left (cnt_mono' L b h) _
theorem dn_yes (n : Nat) (L : List Nat) (b i : Nat) (h : bitN L i = b) : dn n L b (i + 1) = dn n L b i + 1 := by
  unfold dn
  rw [cnt_yes L b i (by rw [h]), Nat.add_assoc]
theorem dn_no (n : Nat) (L : List Nat) (b i : Nat) (h : bitN L i ≠ b) : dn n L b (i + 1) = dn n L b i := by
  unfold dn
  rw [cnt_no L b i (by omega)]
theorem dn_le (n : Nat) (L : List Nat) (b i : Nat) (hb : b < 2) (hi : i ≤ n) : dn n L b i ≤ n := by
  have h1 := cnt_sum L n
  have h2 := cnt_mono' L (b : Int) hi
  unfold dn
  rcases (show b = 0 ∨ b = 1 by omega) with rfl | rfl
  · rw [Nat.zero_mul, Nat.zero_add]
    rw [show ((0 : Nat) : Int) = 0 from rfl] at h2 ⊢
    omega
  · rw [Nat.one_mul]
    rw [show ((1 : Nat) : Int) = 1 from rfl] at h2 ⊢
    omega
theorem dn_lt (n : Nat) (L : List Nat) (i : Nat) (hi : i < n) : dn n L (bitN L i) i < n := by
  have h1 := dn_le n L (bitN L i) (i + 1) (bitN_lt L i) hi
  rw [dn_yes n L _ i rfl] at h1
  omega

/-- The number with index i. -/
def numW (n : Nat) : List (List Nat) → Nat → Nat
  | [], _ => 0
  | L :: Ls, i => bitN L i * 2 ^ Ls.length + numW n Ls (dn n L (bitN L i) i)
theorem numW_lt (n : Nat) : ∀ (Ls : List (List Nat)) (i : Nat), numW n Ls i < 2 ^ Ls.length
  | [], _ => by simp [numW]
  | L :: Ls, i => by
    have h1 := numW_lt n Ls (dn n L (bitN L i) i)
    have h2 := bitN_lt L i
    rw [numW, List.length_cons, Nat.pow_succ]
    rcases (show bitN L i = 0 ∨ bitN L i = 1 by omega) with h | h
    · rw [h] at h1 ⊢; omega
    · rw [h] at h1 ⊢; omega
/-- The list. -/
def listW (n : Nat) (Ls : List (List Nat)) : List Int := (List.range n).map fun i => (numW n Ls i : Int)
theorem listW_len (n : Nat) (Ls : List (List Nat)) : (listW n Ls).length = n := by simp [listW]
theorem listW_get (n : Nat) (Ls : List (List Nat)) (i : Nat) (h : i < n) : (listW n Ls)[i]? = some (numW n Ls i : Int) := by simp [listW, h]

/-- How many of the indices below i have P. -/
def cp (P : Nat → Bool) : Nat → Nat
  | 0 => 0
  | i + 1 => cp P i + if P i = true then 1 else 0
theorem cp_le (P : Nat → Bool) (i : Nat) : cp P i ≤ i := by
  induction i with
  | zero => exact Nat.le_refl _
  | succ i ih => rw [cp]; split <;> omega
theorem cp_mono (P : Nat → Bool) {i j : Nat} (h : i ≤ j) : cp P i ≤ cp P j := by
  induction j with
  | zero =>
    obtain rfl : i = 0 := by omega
    exact Nat.le_refl _
  | succ j ih =>
    rcases Nat.lt_or_ge i (j + 1) with h1 | h1
    · have := ih (by omega)
      rw [cp]
      omega
    · obtain rfl : i = j + 1 := by omega
      exact Nat.le_refl _
theorem cp_congr {P Q : Nat → Bool} {i : Nat} (h : ∀ j, j < i → P j = Q j) : cp P i = cp Q i := by
  induction i with
  | zero => rfl
  | succ i ih => rw [cp, cp, ih fun j hj => h j (by omega), h i (by omega)]
theorem cp_none {P : Nat → Bool} {i : Nat} (h : ∀ j, j < i → P j = false) : cp P i = 0 := by
  induction i with
  | zero => rfl
  | succ i ih => rw [cp, ih fun j hj => h j (by omega), h i (by omega)]; rfl
theorem cp_all {P : Nat → Bool} {i : Nat} (h : ∀ j, j < i → P j = true) : cp P i = i := by
  induction i with
  | zero => rfl
  | succ i ih => rw [cp, ih fun j hj => h j (by omega), h i (by omega)]; rfl
theorem cp_or {P Q : Nat → Bool} (h : ∀ j, P j = true → Q j = true → False) (i : Nat) : cp (fun j => P j || Q j) i = cp P i + cp Q i := by
  induction i with
  | zero => rfl
  | succ i ih =>
    rw [cp, cp, cp, ih]
    have := h i
    cases hp : P i <;> cases hq : Q i
    · simp
    · simp; omega
    · simp; omega
    · exact (h i hp hq).elim
theorem cp_bit (L : List Nat) (b : Nat) (i : Nat) : cp (fun j => decide (bitN L j = b)) i = cnt L (b : Int) i := by
  induction i with
  | zero => rfl
  | succ i ih =>
    rw [cp, cnt, ih]
    by_cases h : bitN L i = b
    · rw [if_pos (by simp [h]), if_pos (by omega)]
    · rw [if_neg (by simp [h]), if_neg (by omega)]
/-- Those with the bit b lead, in order, to a stretch of the next level. -/
theorem cp_down (n : Nat) (L : List Nat) (b : Nat) (P : Nat → Bool) (i : Nat) :
    cp (fun j => decide (bitN L j = b) && P (dn n L (bitN L j) j)) i + cp P (dn n L b 0) = cp P (dn n L b i) := by
  induction i with
  | zero => rw [cp, Nat.zero_add]
  | succ i ih =>
    rw [cp]
    by_cases h : bitN L i = b
    · rw [dn_yes n L b i h, cp, ← ih, h]
      simp only [decide_true, Bool.true_and]
      omega
    · rw [dn_no n L b i h, ← ih, decide_eq_false h]
      simp
theorem cp_down' (n : Nat) (L : List Nat) (b : Nat) (P : Nat → Bool) (lo hi : Nat) :
    cp (fun j => decide (bitN L j = b) && P (dn n L (bitN L j) j)) hi + cp P (dn n L b lo) = cp (fun j => decide (bitN L j = b) && P (dn n L (bitN L j) j)) lo + cp P (dn n L b hi) := by
  have h1 := cp_down n L b P lo
  have h2 := cp_down n L b P hi
  omega

/-- Where an index leads by the bits of x. -/
def plW (n : Nat) : List (List Nat) → Nat → Nat → Nat
  | [], _, i => i
  | L :: Ls, x, i => plW n Ls x (dn n L (x / 2 ^ Ls.length % 2) i)
theorem plW_le (n : Nat) : ∀ (Ls : List (List Nat)) (x i : Nat), i ≤ n → plW n Ls x i ≤ n
  | [], _, _, h => h
  | L :: Ls, x, i, h => plW_le n Ls x _ (dn_le n L _ i (Nat.mod_lt _ (by omega)) h)

theorem two_split (m x : Nat) : x % 2 ^ (m + 1) = x / 2 ^ m % 2 * 2 ^ m + x % 2 ^ m := by
  rw [Nat.pow_succ, Nat.mod_mul, Nat.mul_comm (2 ^ m)]
  omega
theorem digit_eq {m b b' r r' : Nat} (h : r < 2 ^ m) (h' : r' < 2 ^ m) : b * 2 ^ m + r = b' * 2 ^ m + r' ↔ b = b' ∧ r = r' := by
  constructor
  · intro e
    have e1 := congrArg (· / 2 ^ m) e
    have e2 := congrArg (· % 2 ^ m) e
    have hp := Nat.two_pow_pos m
    rw [Nat.mul_comm b, Nat.mul_comm b', Nat.mul_add_div hp, Nat.mul_add_div hp, Nat.div_eq_of_lt h, Nat.div_eq_of_lt h'] at e1
    rw [Nat.mul_comm b, Nat.mul_comm b', Nat.mul_add_mod, Nat.mul_add_mod, Nat.mod_eq_of_lt h, Nat.mod_eq_of_lt h'] at e2
    exact ⟨by omega, e2⟩
  · rintro ⟨rfl, rfl⟩
    rfl
theorem digit_lt {m b b' r r' : Nat} (h : r < 2 ^ m) (h' : r' < 2 ^ m) : b * 2 ^ m + r < b' * 2 ^ m + r' ↔ b < b' ∨ (b = b' ∧ r < r') := by
  rcases Nat.lt_trichotomy b b' with hb | rfl | hb
  · have : (b + 1) * 2 ^ m ≤ b' * 2 ^ m := Nat.mul_le_mul_right _ hb
    rw [Nat.add_mul, Nat.one_mul] at this
    constructor
    · intro _; exact .inl hb
    · intro _; omega
  · constructor
    · intro e; exact .inr ⟨rfl, by omega⟩
    · rintro (e | ⟨_, e⟩) <;> omega
  · have : (b' + 1) * 2 ^ m ≤ b * 2 ^ m := Nat.mul_le_mul_right _ hb
    rw [Nat.add_mul, Nat.one_mul] at this
    constructor
    · intro e; omega
    · rintro (e | ⟨e, _⟩) <;> omega

/-- How often x occurs among the first i. -/
theorem rank_place (n : Nat) : ∀ (Ls : List (List Nat)) (x i : Nat), cp (fun j => decide (numW n Ls j = x % 2 ^ Ls.length)) i + plW n Ls x 0 = plW n Ls x i
  | [], x, i => by
    rw [cp_all (by intro j _; simp [numW, Nat.mod_one])]
    rfl
  | L :: Ls, x, i => by
    have h1 := cp_down n L (x / 2 ^ Ls.length % 2) (fun j => decide (numW n Ls j = x % 2 ^ Ls.length)) i
    have h2 := rank_place n Ls x (dn n L (x / 2 ^ Ls.length % 2) i)
    have h3 := rank_place n Ls x (dn n L (x / 2 ^ Ls.length % 2) 0)
    have e : cp (fun j => decide (numW n (L :: Ls) j = x % 2 ^ (L :: Ls).length)) i = cp (fun j => decide (bitN L j = x / 2 ^ Ls.length % 2) && decide (numW n Ls (dn n L (bitN L j) j) = x % 2 ^ Ls.length)) i := by
      apply cp_congr
      intro j _
      rw [← Bool.decide_and, numW, List.length_cons, two_split]
      exact decide_eq_decide.2 (digit_eq (numW_lt n Ls _) (Nat.mod_lt _ (Nat.two_pow_pos _)))
    rw [e, plW, plW]
    omega

/-- How many of lo..hi - 1 are less than x. -/
def lessW (n : Nat) : List (List Nat) → Nat → Nat → Nat → Nat
  | [], _, _, _ => 0
  | L :: Ls, x, lo, hi => (if x / 2 ^ Ls.length % 2 = 1 then cnt L 0 hi - cnt L 0 lo else 0) + lessW n Ls x (dn n L (x / 2 ^ Ls.length % 2) lo) (dn n L (x / 2 ^ Ls.length % 2) hi)
theorem less_count (n : Nat) : ∀ (Ls : List (List Nat)) (x lo hi : Nat), lo ≤ hi →
    cp (fun j => decide (numW n Ls j < x % 2 ^ Ls.length)) lo + lessW n Ls x lo hi = cp (fun j => decide (numW n Ls j < x % 2 ^ Ls.length)) hi
  | [], x, lo, hi, _ => by
    rw [cp_none (by intro j _; simp [Nat.mod_one]), cp_none (by intro j _; simp [Nat.mod_one])]
    rfl
  | L :: Ls, x, lo, hi, hle => by
    have hlt : ∀ j, decide (numW n (L :: Ls) j < x % 2 ^ (L :: Ls).length) = (decide (bitN L j < x / 2 ^ Ls.length % 2) || (decide (bitN L j = x / 2 ^ Ls.length % 2) && decide (numW n Ls (dn n L (bitN L j) j) < x % 2 ^ Ls.length))) := by
      intro j
      rw [← Bool.decide_and, ← Bool.decide_or, numW, List.length_cons, two_split]
      exact decide_eq_decide.2 (digit_lt (numW_lt n Ls _) (Nat.mod_lt _ (Nat.two_pow_pos _)))
    have e : ∀ i, cp (fun j => decide (numW n (L :: Ls) j < x % 2 ^ (L :: Ls).length)) i = cp (fun j => decide (bitN L j < x / 2 ^ Ls.length % 2)) i + cp (fun j => decide (bitN L j = x / 2 ^ Ls.length % 2) && decide (numW n Ls (dn n L (bitN L j) j) < x % 2 ^ Ls.length)) i := by
      intro i
      rw [← cp_or (by intro j h1 h2; simp at h1 h2; omega)]
      exact cp_congr fun j _ => hlt j
    have h1 := cp_down' n L (x / 2 ^ Ls.length % 2) (fun j => decide (numW n Ls j < x % 2 ^ Ls.length)) lo hi
    have h2 := less_count n Ls x _ _ (dn_mono n L (x / 2 ^ Ls.length % 2) hle)
    have h3 : cp (fun j => decide (bitN L j < x / 2 ^ Ls.length % 2)) hi = cp (fun j => decide (bitN L j < x / 2 ^ Ls.length % 2)) lo + (if x / 2 ^ Ls.length % 2 = 1 then cnt L 0 hi - cnt L 0 lo else 0) := by
      split
      · rename_i h
        rw [h]
        have e0 : ∀ i, cp (fun j => decide (bitN L j < 1)) i = cnt L 0 i := fun i => by
          rw [← show cnt L ((0 : Nat) : Int) i = cnt L 0 i from rfl, ← cp_bit L 0 i]
          exact cp_congr fun j _ => by rw [decide_eq_decide]; omega
        have := cnt_mono' L 0 hle
        rw [e0, e0]
        omega
      · rename_i h
        have h0 : x / 2 ^ Ls.length % 2 = 0 := by omega
        rw [h0, cp_none (by intro j _; simp), cp_none (by intro j _; simp)]
    rw [e, e, lessW]
    omega

/-- The k-th smallest of lo..hi - 1. -/
def kthW (n : Nat) : List (List Nat) → Nat → Nat → Nat → Nat
  | [], _, _, _ => 0
  | L :: Ls, lo, hi, k => if k < cnt L 0 hi - cnt L 0 lo then kthW n Ls (dn n L 0 lo) (dn n L 0 hi) k else 2 ^ Ls.length + kthW n Ls (dn n L 1 lo) (dn n L 1 hi) (k - (cnt L 0 hi - cnt L 0 lo))
/-- What it means: at most k are less, more than k are at most as great. -/
structure Kth (n : Nat) (Ls : List (List Nat)) (lo hi k x : Nat) : Prop where
  lt : x < 2 ^ Ls.length
  less : cp (fun j => decide (numW n Ls j < x)) hi ≤ cp (fun j => decide (numW n Ls j < x)) lo + k
  upto : cp (fun j => decide (numW n Ls j < x + 1)) lo + k < cp (fun j => decide (numW n Ls j < x + 1)) hi
theorem kth_is (n : Nat) : ∀ (Ls : List (List Nat)) (lo hi k : Nat), lo + k < hi → Kth n Ls lo hi k (kthW n Ls lo hi k)
  | [], lo, hi, k, h => by
    refine ⟨by simp [kthW], ?_, ?_⟩
    · rw [cp_none (by intro j _; simp [kthW]), cp_none (by intro j _; simp [kthW])]
      omega
    · rw [cp_all (by intro j _; simp [kthW, numW]), cp_all (by intro j _; simp [kthW, numW])]
      exact h
  | L :: Ls, lo, hi, k, h => by
    have hle : lo ≤ hi := by omega
    have hm := cnt_mono' L 0 hle
    have d0 : ∀ i, dn n L 0 i = cnt L 0 i := fun i => by unfold dn; rw [Nat.zero_mul, Nat.zero_add]; rfl
    have d1 : ∀ i, dn n L 1 i = cnt L 0 n + cnt L 1 i := fun i => by unfold dn; rw [Nat.one_mul]; rfl
    have hs := cnt_sum L lo
    have hs' := cnt_sum L hi
    have two := fun j => bitN_lt L j
    have hz := fun j => numW_lt n Ls (dn n L (bitN L j) j)
    rw [kthW]
    split
    · rename_i hk
      obtain ⟨g1, g2, g3⟩ := kth_is n Ls (dn n L 0 lo) (dn n L 0 hi) k (by rw [d0, d0]; omega)
      generalize kthW n Ls (dn n L 0 lo) (dn n L 0 hi) k = x at *
      have key : ∀ y, y ≤ 2 ^ Ls.length → ∀ i, cp (fun j => decide (numW n (L :: Ls) j < y)) i = cp (fun j => decide (bitN L j = 0) && decide (numW n Ls (dn n L (bitN L j) j) < y)) i := by
        intro y hy i
        apply cp_congr
        intro j _
        rw [← Bool.decide_and, numW]
        refine decide_eq_decide.2 ?_
        have := two j
        rcases (show bitN L j = 0 ∨ bitN L j = 1 by omega) with hb | hb
        · rw [hb]; omega
        · rw [hb]; omega
      have c1 := cp_down' n L 0 (fun j => decide (numW n Ls j < x)) lo hi
      have c2 := cp_down' n L 0 (fun j => decide (numW n Ls j < x + 1)) lo hi
      refine ⟨by rw [List.length_cons, Nat.pow_succ]; omega, ?_, ?_⟩
      · rw [key x (by omega), key x (by omega)]
        omega
      · rw [key (x + 1) (by omega), key (x + 1) (by omega)]
        omega
    · rename_i hk
      obtain ⟨g1, g2, g3⟩ := kth_is n Ls (dn n L 1 lo) (dn n L 1 hi) (k - (cnt L 0 hi - cnt L 0 lo)) (by rw [d1, d1]; omega)
      generalize kthW n Ls (dn n L 1 lo) (dn n L 1 hi) (k - (cnt L 0 hi - cnt L 0 lo)) = x at *
      have key : ∀ y i, cp (fun j => decide (numW n (L :: Ls) j < 2 ^ Ls.length + y)) i = cnt L 0 i + cp (fun j => decide (bitN L j = 1) && decide (numW n Ls (dn n L (bitN L j) j) < y)) i := by
        intro y i
        rw [← show cnt L ((0 : Nat) : Int) i = cnt L 0 i from rfl, ← cp_bit L 0 i, ← cp_or (by intro j h1 h2; simp at h1 h2; omega)]
        apply cp_congr
        intro j _
        rw [← Bool.decide_and, ← Bool.decide_or, numW]
        refine decide_eq_decide.2 ?_
        have := two j
        have h5 := hz j
        rcases (show bitN L j = 0 ∨ bitN L j = 1 by omega) with hb | hb
        · rw [hb] at h5 ⊢; omega
        · rw [hb] at h5 ⊢; omega
      have c1 := cp_down' n L 1 (fun j => decide (numW n Ls j < x)) lo hi
      have c2 := cp_down' n L 1 (fun j => decide (numW n Ls j < x + 1)) lo hi
      refine ⟨by rw [List.length_cons, Nat.pow_succ]; omega, ?_, ?_⟩
      · rw [key, key]
        omega
      · rw [Nat.add_assoc, key, key]
        omega

/-- The path of an index whose number is x, from the first level to the place behind the last. -/
theorem path_of (n : Nat) : ∀ (Ls : List (List Nat)) (x i : Nat), i < n → numW n Ls i = x % 2 ^ Ls.length →
    ∃ J : Nat → Nat, J 0 = i ∧ J Ls.length = plW n Ls x i ∧ (∀ k, J k < n) ∧ ∀ k L, Ls[k]? = some L → bitN L (J k) = x / 2 ^ (Ls.length - 1 - k) % 2 ∧ J (k + 1) = dn n L (x / 2 ^ (Ls.length - 1 - k) % 2) (J k)
  | [], x, i, hi, _ => ⟨fun _ => i, rfl, rfl, fun _ => hi, fun k L h => by simp at h⟩
  | L :: Ls, x, i, hi, h => by
    rw [numW, List.length_cons, two_split] at h
    obtain ⟨hb, hr⟩ := (digit_eq (numW_lt n Ls _) (Nat.mod_lt _ (Nat.two_pow_pos _))).1 h
    obtain ⟨J, h1, h2, h3, h4⟩ := path_of n Ls x _ (dn_lt n L i hi) hr
    refine ⟨fun k => match k with | 0 => i | k + 1 => J k, rfl, ?_, ?_, ?_⟩
    · rw [List.length_cons, plW, ← hb]
      exact h2
    · intro k
      match k with
      | 0 => exact hi
      | k + 1 => exact h3 k
    · intro k M hk
      match k with
      | 0 =>
        obtain rfl : L = M := by simpa using hk
        simp only [List.length_cons, Nat.add_sub_cancel, Nat.sub_zero]
        exact ⟨hb, by rw [h1, hb]⟩
      | k + 1 =>
        have := h4 k M (by simpa using hk)
        simp only [List.length_cons]
        rw [show Ls.length + 1 - 1 - (k + 1) = Ls.length - 1 - k by omega]
        exact this

end Go.Proofs.Ytnlpmcgpdaifoaa

/- Plain mathematics: the levels of a list of numbers, and that the numbers are read from them again. Nothing of the program and nothing of the model stands here. -/
namespace Go.Proofs.Ytnlpmcgpdaifoaa

theorem wv_val (B : List Int) (hB : IsBits B) (i : Nat) (b : Int) (h : B[i]? = some b) : val B / 2 ^ i % 2 = b.toNat := by
  obtain ⟨hi, hb⟩ := List.getElem?_eq_some_iff.1 h
  have e1 : val B = val (B.take i) + 2 ^ i * val (B.drop i) := by
    conv => lhs; rw [← List.take_append_drop i B]
    rw [val_append, List.length_take, Nat.min_eq_left (by omega)]
  have h1 : val (B.take i) < 2 ^ i := by
    have := val_lt _ (hB.take i)
    rwa [List.length_take, Nat.min_eq_left (by omega)] at this
  rw [e1, Nat.add_mul_div_left _ _ (Nat.two_pow_pos _), Nat.div_eq_of_lt h1, Nat.zero_add, List.drop_eq_getElem_cons hi, hb, val]
  have := hB b (List.mem_of_getElem? h)
  omega
theorem wv_bit (B : List Int) (hB : IsBits B) (i : Nat) (b : Int) (h : B[i]? = some b) : (bitN (wordsOf B) i : Int) = b := by
  have hi := (List.getElem?_eq_some_iff.1 h).1
  have h2 : ((B.drop (64 * (i / 64))).take 64)[i % 64]? = some b := by
    rw [List.getElem?_take, if_pos (by omega), List.getElem?_drop, show 64 * (i / 64) + i % 64 = i by omega, h]
  unfold bitN
  rw [List.getD_eq_getElem?_getD, wordsOf_get B (i / 64) (by omega), Option.getD_some, wv_val _ ((hB.drop _).take _) _ b h2]
  have := hB b (List.mem_of_getElem? h)
  omega
theorem wv_ok (n : Nat) (B : List Int) (hB : IsBits B) (hl : B.length = n) (hn : n ≤ 5000) : okB n (wordsOf B) = true := by
  subst hl
  have e : bitsOf B.length (wordsOf B) = B := by
    apply List.ext_getElem?
    intro i
    by_cases hi : i < B.length
    · obtain ⟨b, hb⟩ : ∃ b, B[i]? = some b := ⟨_, List.getElem?_eq_getElem hi⟩
      rw [bitsOf_get _ _ _ hi, hb, wv_bit B hB i b hb]
    · rw [List.getElem?_eq_none (by rw [bitsOf_len]; omega), List.getElem?_eq_none (by omega)]
  unfold okB
  rw [Int.toNat_natCast, (words_back B.length (wordsOf B) (wordsOf_len B) (wordsOf_lt B hB)).1 (by rw [e]), decide_eq_true ⟨by omega, by omega, wordsOf_len B⟩]
  rfl
theorem wv_cnt (B : List Int) (hB : IsBits B) (b : Int) : ∀ i, i ≤ B.length → cnt (wordsOf B) b i = (B.take i).count b
  | 0, _ => by simp [cnt]
  | i + 1, h => by
    obtain ⟨y, hy⟩ : ∃ y, B[i]? = some y := ⟨_, List.getElem?_eq_getElem (by omega)⟩
    rw [cnt, wv_cnt B hB b i (by omega), wv_bit B hB i y hy, List.take_add_one, hy, Option.toList_some, List.count_append, List.count_singleton]
    by_cases e : y = b <;> simp [e]

/-- The bit with the value 2 ^ m of a number. -/
def wb (m : Nat) (x : Int) : Int := x / 2 ^ m % 2
theorem wb_01 (m : Nat) (x : Int) : wb m x = 0 ∨ wb m x = 1 := by unfold wb; omega
def wlow (m : Nat) (X : List Int) : List Int := X.filter fun x => decide (wb m x = 0)
def whigh (m : Nat) (X : List Int) : List Int := X.filter fun x => decide (wb m x ≠ 0)
/-- The list reordered by a bit. -/
def wre (m : Nat) (X : List Int) : List Int := wlow m X ++ whigh m X
/-- The list as it is reordered ahead of a level. -/
def wX (X : List Int) : Nat → List Int
  | 0 => X
  | k + 1 => wre (8 - k) (wX X k)
/-- The bits of a level. -/
def wrow (X : List Int) (k : Nat) : List Int := (wX X k).map (wb (8 - k))
def wlev (X : List Int) : List (List Nat) := (List.range 9).map fun k => wordsOf (wrow X k)
def wzer (X : List Int) : List Int := (List.range 9).map fun k => ((wlow (8 - k) (wX X k)).length : Int)

theorem low_high (m : Nat) (X : List Int) : (wlow m X).length + (whigh m X).length = X.length := by
  unfold wlow whigh
  induction X with
  | nil => rfl
  | cons x r ih =>
    rw [List.filter_cons, List.filter_cons]
    by_cases h : wb m x = 0
    · rw [if_pos (by simpa using h), if_neg (by simpa using h)]
      simp only [List.length_cons]
      omega
    · rw [if_neg (by simpa using h), if_pos (by simpa using h)]
      simp only [List.length_cons]
      omega
theorem wre_len (m : Nat) (X : List Int) : (wre m X).length = X.length := by
  rw [wre, List.length_append, low_high]
theorem wX_len (X : List Int) : ∀ k, (wX X k).length = X.length
  | 0 => rfl
  | k + 1 => by rw [wX, wre_len, wX_len X k]
theorem wre_mem {m : Nat} {X : List Int} {x : Int} (h : x ∈ wre m X) : x ∈ X := by
  rcases List.mem_append.1 h with h | h
  · exact (List.mem_filter.1 h).1
  · exact (List.mem_filter.1 h).1
theorem wX_mem {X : List Int} : ∀ {k : Nat} {x : Int}, x ∈ wX X k → x ∈ X
  | 0, _, h => h
  | _ + 1, _, h => wX_mem (wre_mem h)
theorem wrow_len (X : List Int) (k : Nat) : (wrow X k).length = X.length := by rw [wrow, List.length_map, wX_len]
theorem wrow_bits (X : List Int) (k : Nat) : IsBits (wrow X k) := by
  intro b hb
  obtain ⟨x, _, rfl⟩ := List.mem_map.1 hb
  exact wb_01 _ _
theorem wlev_len (X : List Int) : (wlev X).length = 9 := by simp [wlev]
theorem wzer_len (X : List Int) : (wzer X).length = 9 := by simp [wzer]
theorem wlev_get (X : List Int) (k : Nat) (h : k < 9) : (wlev X)[k]? = some (wordsOf (wrow X k)) := by simp [wlev, h]
theorem wzer_get (X : List Int) (k : Nat) (h : k < 9) : (wzer X)[k]? = some ((wlow (8 - k) (wX X k)).length : Int) := by simp [wzer, h]

theorem low_count (m : Nat) (X : List Int) : (wlow m X).length = (X.map (wb m)).count 0 := by
  unfold wlow
  rw [← List.countP_eq_length_filter, List.count_eq_countP, List.countP_map]
  congr 1
theorem zer_cnt (X : List Int) (k : Nat) : (wlow (8 - k) (wX X k)).length = cnt (wordsOf (wrow X k)) 0 X.length := by
  rw [wv_cnt _ (wrow_bits X k) 0 _ (by rw [wrow_len]; exact Nat.le_refl _), List.take_of_length_le (by rw [wrow_len]; exact Nat.le_refl _), low_count]
  rfl

theorem filter_at (p : Int → Bool) (X : List Int) : ∀ (i : Nat) (x : Int), X[i]? = some x → p x = true → (X.filter p)[(X.take i).countP p]? = some x := by
  induction X with
  | nil => intro i x h; simp at h
  | cons y r ih =>
    intro i x h hp
    match i with
    | 0 =>
      obtain rfl : y = x := by simpa using h
      rw [List.filter_cons, if_pos hp]
      simp
    | i + 1 =>
      have h2 := ih i x (by simpa using h) hp
      rw [List.filter_cons, List.take_succ_cons, List.countP_cons]
      cases hy : p y
      · rw [if_neg (by simp), if_neg (by simp), Nat.add_zero]
        exact h2
      · rw [if_pos rfl, if_pos rfl, List.getElem?_cons_succ]
        exact h2
/-- Where a number stands in the reordered list. -/
theorem re_at (X : List Int) (k i : Nat) (x : Int) (h : (wX X k)[i]? = some x) : (wX X (k + 1))[dn X.length (wordsOf (wrow X k)) (bitN (wordsOf (wrow X k)) i) i]? = some x := by
  have hi : i < X.length := by
    have := (List.getElem?_eq_some_iff.1 h).1
    rwa [wX_len] at this
  have hr : (wrow X k)[i]? = some (wb (8 - k) x) := by rw [wrow, List.getElem?_map, h]; rfl
  have hb := wv_bit _ (wrow_bits X k) i _ hr
  have hc : ∀ b, cnt (wordsOf (wrow X k)) b i = ((wX X k).take i).countP (fun y => decide (wb (8 - k) y = b)) := fun b => by
    rw [wv_cnt _ (wrow_bits X k) b i (by rw [wrow_len]; omega), wrow, ← List.map_take, List.count_eq_countP, List.countP_map]
    congr 1
  unfold dn
  rw [hb, hc, wX, wre, ← zer_cnt]
  rcases wb_01 (8 - k) x with h0 | h0
  · rw [h0, show bitN (wordsOf (wrow X k)) i = 0 by omega, Nat.zero_mul, Nat.zero_add]
    have := filter_at (fun y => decide (wb (8 - k) y = 0)) _ i x h (by simpa using h0)
    rw [List.getElem?_append_left]
    · exact this
    · exact (List.getElem?_eq_some_iff.1 this).1
  · rw [h0, show bitN (wordsOf (wrow X k)) i = 1 by omega, Nat.one_mul]
    have := filter_at (fun y => decide (wb (8 - k) y ≠ 0)) _ i x h (by simp; omega)
    rw [List.getElem?_append_right (by omega), Nat.add_sub_cancel_left]
    rw [← this, whigh]
    congr 1
    apply List.countP_congr
    intro y _
    have := wb_01 (8 - k) y
    simp
    omega

theorem num_of (X : List Int) (hX : ∀ x ∈ X, 0 ≤ x) : ∀ d k, k + d = 9 → ∀ (i : Nat) (x : Int), (wX X k)[i]? = some x → (numW X.length ((wlev X).drop k) i : Int) = x % 2 ^ d
  | 0, k, hk, i, x, _ => by
    rw [List.drop_eq_nil_of_le (by rw [wlev_len]; omega), numW]
    simp [Int.emod_one]
  | d + 1, k, hk, i, x, h => by
    have hk9 : k < (wlev X).length := by rw [wlev_len]; omega
    have hg := wlev_get X k (by omega)
    have e1 : (wlev X)[k] = wordsOf (wrow X k) := by rw [List.getElem?_eq_getElem hk9] at hg; exact Option.some.inj hg
    have ih := num_of X hX d (k + 1) (by omega) _ x (re_at X k i x h)
    have hr : (wrow X k)[i]? = some (wb (8 - k) x) := by rw [wrow, List.getElem?_map, h]; rfl
    have hb := wv_bit _ (wrow_bits X k) i _ hr
    have hx := hX x (wX_mem (List.mem_of_getElem? h))
    rw [List.drop_eq_getElem_cons hk9, e1, numW, List.length_drop, wlev_len, show 9 - (k + 1) = d by omega, Int.natCast_add, ih, Int.natCast_mul, hb, wb, show 8 - k = d by omega]
    obtain ⟨a, rfl⟩ := Int.eq_ofNat_of_zero_le hx
    have e := two_split d a
    have c : ((2 ^ d : Nat) : Int) = 2 ^ d := by simp
    rw [c, ← show ((a % 2 ^ (d + 1) : Nat) : Int) = (a : Int) % 2 ^ (d + 1) by simp, e]
    simp
/-- The numbers are read again. -/
theorem list_back (X : List Int) (hX : ∀ x ∈ X, 0 ≤ x ∧ x ≤ 511) : listW X.length (wlev X) = X := by
  apply List.ext_getElem?
  intro i
  by_cases hi : i < X.length
  · obtain ⟨x, hx⟩ : ∃ x, X[i]? = some x := ⟨_, List.getElem?_eq_getElem hi⟩
    have := num_of X (fun x h => (hX x h).1) 9 0 rfl i x hx
    rw [List.drop_zero] at this
    have h2 := hX x (List.mem_of_getElem? hx)
    rw [listW_get _ _ _ hi, hx, this, Int.emod_eq_of_lt h2.1 (by omega)]
  · rw [List.getElem?_eq_none (by rw [listW_len]; omega), List.getElem?_eq_none (by omega)]

end Go.Proofs.Ytnlpmcgpdaifoaa
