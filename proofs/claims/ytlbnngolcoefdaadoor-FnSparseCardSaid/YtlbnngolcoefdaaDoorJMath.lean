import Derived.Test.YtlbnngolcoefdaaDoorPk7
import Derived.Test.YtlbnngolcoefdaaDoorPk3
import Derived.Test.YtlbnngolcoefdaaDoorJoin2
import Derived.Test.YtlbnngolcoefdaaDoorSelMath2
/- Plain mathematics of FnPackBack: what was packed is valid, and is the list. -/
namespace Go.Proofs.YtlbnngolcoefdaaDoor

theorem digits_bit (T V i : Nat) (h : i / 64 < T) : bitN (digits T V) i = V / 2 ^ i % 2 := by
  unfold bitN
  rw [List.getD_eq_getElem?_getD, digits_get _ _ _ h, Option.getD_some]
  have e : ∀ y : Nat, y % 2 = if y.testBit 0 then 1 else 0 := fun y => by
    rw [Nat.testBit_zero]
    by_cases hy : y % 2 = 1
    · simp [hy]
    · have : y % 2 = 0 := by omega
      simp [this]
  rw [e, e]
  congr 1
  rw [Nat.testBit_div_two_pow, Nat.testBit_mod_two_pow, Nat.testBit_div_two_pow, Nat.testBit_div_two_pow]
  have h1 : 0 + i % 64 < 64 := by omega
  have h2 : 0 + i % 64 + 64 * (i / 64) = 0 + i := by omega
  simp only [h1, h2, decide_true, Bool.true_and]
theorem digits_val (m V : Nat) (hV : V < 2 ^ m) : val (bitsOf m (digits ((m + 63) / 64) V)) = V := by
  have e : bitsOf m (digits ((m + 63) / 64) V) = (List.range m).map fun i => ((V / 2 ^ i % 2 : Nat) : Int) := by
    unfold bitsOf
    apply List.map_congr_left
    intro i hi
    rw [List.mem_range] at hi
    rw [digits_bit _ _ _ (by omega)]
  rw [e, val_digits, Nat.mod_eq_of_lt hV]
theorem digits_tail (m V : Nat) (hV : V < 2 ^ m) : tailB m (digits ((m + 63) / 64) V) = true := by
  unfold tailB
  rw [Bool.or_eq_true, beq_iff_eq, beq_iff_eq]
  by_cases h : m % 64 = 0
  · exact .inl h
  · right
    rw [List.getD_eq_getElem?_getD, digits_get _ _ _ (by omega), Option.getD_some]
    have h1 : V / 2 ^ (64 * (m / 64)) < 2 ^ (m % 64) := by
      rw [Nat.div_lt_iff_lt_mul (Nat.two_pow_pos _), ← Nat.pow_add, show m % 64 + 64 * (m / 64) = m by omega]
      exact hV
    exact Nat.div_eq_of_lt (Nat.lt_of_le_of_lt (Nat.mod_le _ _) h1)

/-- What PackOf packs is valid, and is the list again. -/
theorem pack_back (L : List Int) (wd : Int) (h : poOk L wd = true) : okP (poP L wd) (poN L wd) (poM L wd) (poW L wd) = true ∧ plV (poP L wd) (poN L wd) (poM L wd) (poW L wd) = L ∧
    (∀ k : Nat, (hk : k < L.length) → paV (poP L wd) (poN L wd) (poM L wd) (poW L wd) k = L[k]) ∧ paV (poP L wd) (poN L wd) (poM L wd) (poW L wd) (L.length : Int) = -1 ∧ (∃ d : Nat, wd = d ∧ d ≤ 32) ∧ L.length ≤ 5000 := by
  have h0 := h
  unfold poOk at h0
  rw [Bool.and_eq_true, List.all_eq_true] at h0
  obtain ⟨d, rfl, h1, h2, h3⟩ := fits_nat h0.1
  have hall : ∀ n ∈ L, 0 ≤ n ∧ n < 2 ^ d := fun n hn => by
    have := h0.2 n hn
    rw [decide_eq_true_iff] at this
    exact this
  have eP : poP L d = d := if_pos h
  have eN : poN L d = (L.length : Int) := if_pos h
  have eM : poM L d = ((L.length * d : Nat) : Int) := by unfold poM; rw [if_pos h]; simp
  have eW : poW L d = digits ((L.length * d + 63) / 64) (packNum d L) := by unfold poW; rw [if_pos h, Int.toNat_natCast]
  have hV := packNum_lt d L
  have hok : okP (d : Int) (L.length : Int) ((L.length * d : Nat) : Int) (digits ((L.length * d + 63) / 64) (packNum d L)) = true := by
    unfold okP okB
    rw [Bool.and_eq_true, decide_eq_true_iff, Bool.and_eq_true, decide_eq_true_iff, Int.toNat_natCast, digits_len]
    exact ⟨⟨by omega, by omega, by omega, by omega, by simp⟩, ⟨by omega, by omega, rfl⟩, digits_tail _ _ hV⟩
  rw [eP, eN, eM, eW]
  refine ⟨hok, ?_, ?_, ?_, ⟨d, rfl, h1⟩, h2⟩
  · unfold plV
    rw [if_pos hok, Int.toNat_natCast, Int.toNat_natCast, Int.toNat_natCast, digits_val _ _ hV]
    apply List.ext_getElem?
    intro k
    by_cases hk : k < L.length
    · rw [unpack_get _ _ _ _ hk, packNum_get d L hall k hk, List.getElem?_eq_getElem hk]
    · rw [List.getElem?_eq_none (by rw [unpack_len]; omega), List.getElem?_eq_none (by omega)]
  · intro k hk
    unfold paV
    rw [if_pos ⟨hok, by omega, by omega⟩, Int.toNat_natCast, Int.toNat_natCast, Int.toNat_natCast, digits_val _ _ hV, packNum_get d L hall k hk]
  · unfold paV
    rw [if_neg (fun h => by omega)]

end Go.Proofs.YtlbnngolcoefdaaDoor

/- Plain mathematics: the bits of a joined and of a flipped vector, counted. -/
namespace Go.Proofs.YtlbnngolcoefdaaDoor

theorem val_bitJ (B : List Int) (hB : IsBits B) (i : Nat) (b : Int) (h : B[i]? = some b) : val B / 2 ^ i % 2 = b.toNat := by
  obtain ⟨hi, hb⟩ := List.getElem?_eq_some_iff.1 h
  have e1 : val B = val (B.take i) + 2 ^ i * val (B.drop i) := by
    conv => lhs; rw [← List.take_append_drop i B]
    rw [val_append, List.length_take, Nat.min_eq_left (by omega)]
  have h1 : val (B.take i) < 2 ^ i := by
    have := val_lt _ (hB.take i)
    rwa [List.length_take, Nat.min_eq_left (by omega)] at this
  rw [e1, Nat.add_mul_div_left _ _ (Nat.two_pow_pos _), Nat.div_eq_of_lt h1, Nat.zero_add, List.drop_eq_getElem_cons hi, hb, val]
  have := hB b (List.mem_of_getElem? h)
  omega
theorem bitN_words (B : List Int) (hB : IsBits B) (i : Nat) (b : Int) (h : B[i]? = some b) : (bitN (wordsOf B) i : Int) = b := by
  have hi := (List.getElem?_eq_some_iff.1 h).1
  rw [wordsOf_digits B hB, digits_bit _ _ _ (by omega), val_bitJ B hB i b h]
  have := hB b (List.mem_of_getElem? h)
  omega
theorem bits_words (B : List Int) (hB : IsBits B) : bitsOf B.length (wordsOf B) = B := by
  apply List.ext_getElem?
  intro i
  by_cases hi : i < B.length
  · obtain ⟨b, hb⟩ : ∃ b, B[i]? = some b := ⟨_, List.getElem?_eq_getElem hi⟩
    rw [bitsOf_get _ _ _ hi, hb, bitN_words B hB i b hb]
  · rw [List.getElem?_eq_none (by rw [bitsOf_len]; omega), List.getElem?_eq_none (by omega)]
theorem ok_words (n : Nat) (B : List Int) (hB : IsBits B) (hl : B.length = n) (hn : n ≤ 5000) : okB n (wordsOf B) = true := by
  subst hl
  unfold okB
  rw [Int.toNat_natCast, (words_back B.length (wordsOf B) (wordsOf_len B) (wordsOf_lt B hB)).1 (by rw [bits_words B hB]), decide_eq_true ⟨by omega, by omega, wordsOf_len B⟩]
  rfl

theorem joined_bits (n m : Nat) (L K : List Nat) : IsBits (bitsOf n L ++ bitsOf m K) := by
  intro b hb
  rcases List.mem_append.1 hb with h | h
  · exact bitsOf_bits n L b h
  · exact bitsOf_bits m K b h
theorem cnt_join1 (n m : Nat) (L K : List Nat) (b : Int) : ∀ k, k ≤ n → cnt (wordsOf (bitsOf n L ++ bitsOf m K)) b k = cnt L b k
  | 0, _ => rfl
  | k + 1, h => by
    have e := bitN_words _ (joined_bits n m L K) k (bitN L k : Int) (by rw [List.getElem?_append_left (by rw [bitsOf_len]; omega)]; exact bitsOf_get _ _ _ (by omega))
    rw [cnt, cnt, cnt_join1 n m L K b k (by omega), e]
theorem cnt_join2 (n m : Nat) (L K : List Nat) (b : Int) : ∀ k, k ≤ m → cnt (wordsOf (bitsOf n L ++ bitsOf m K)) b (n + k) = cnt L b n + cnt K b k
  | 0, _ => cnt_join1 n m L K b n (Nat.le_refl _)
  | k + 1, h => by
    have e := bitN_words _ (joined_bits n m L K) (n + k) (bitN K k : Int) (by rw [List.getElem?_append_right (by rw [bitsOf_len]; omega), bitsOf_len, Nat.add_sub_cancel_left]; exact bitsOf_get _ _ _ (by omega))
    rw [← Nat.add_assoc, cnt, cnt, cnt_join2 n m L K b k (by omega), e, Nat.add_assoc]

theorem flip_ok (n : Nat) (L : List Nat) (hl : L.length = (n + 63) / 64) (hw : ∀ x ∈ L, x < 2 ^ 64) (hn : n ≤ 5000) : okB n (flipW n L) = true ∧ ∀ x ∈ flipW n L, x < 2 ^ 64 := by
  rw [flipW_words n L hl hw]
  exact ⟨ok_words n _ (flipped_bits (bitsOf_bits n L)) (by simp [flipped, bitsOf_len]) hn, wordsOf_lt _ (flipped_bits (bitsOf_bits n L))⟩
theorem flip_twice (n : Nat) (L : List Nat) (hl : L.length = (n + 63) / 64) (hw : ∀ x ∈ L, x < 2 ^ 64) (hn : n ≤ 5000) (ht : tailB n L = true) : flipW n (flipW n L) = L := by
  rw [flipW_words n (flipW n L) (by rw [flipW_len]; exact hl) (flip_ok n L hl hw hn).2]
  have hf : (flipped (bitsOf n L)).length = n := by simp [flipped, bitsOf_len]
  have e : bitsOf n (flipW n L) = flipped (bitsOf n L) := by
    have h := bits_words _ (flipped_bits (bitsOf_bits n L))
    rw [hf] at h
    rw [flipW_words n L hl hw]
    exact h
  have e2 : flipped (flipped (bitsOf n L)) = bitsOf n L := by
    unfold flipped
    rw [List.map_map]
    conv => rhs; rw [← List.map_id (bitsOf n L)]
    apply List.map_congr_left
    intro a _
    simp
    omega
  rw [e, e2]
  exact (words_back n L hl hw).2 ht

/-- What the law asks of two vectors that can be joined. -/
theorem join_law {N M : Int} {L K : List Nat} (h : jOk N L M K = true) : ∃ n m t : Nat, N = n ∧ M = m ∧ n + m = t ∧ t ≤ 5000 ∧ jN N L M K = t ∧ okB t (jW N L M K) = true ∧ (jW N L M K).length = (t + 63) / 64 ∧ (∀ x ∈ jW N L M K, x < 2 ^ 64) ∧
    (∀ i : Nat, i ≤ m → rankV t (jW N L M K) 1 ((n : Int) + (i : Int)) = rankV n L 1 n + rankV m K 1 i ∧ rankV t (flipW t (jW N L M K)) 0 ((n : Int) + (i : Int)) = rankV t (jW N L M K) 1 ((n : Int) + (i : Int)) ∧ 0 ≤ rankV n L 1 n ∧ rankV n L 1 n ≤ 5000 ∧ 0 ≤ rankV m K 1 i ∧ rankV m K 1 i ≤ 5000) ∧
    okB t (flipW t (jW N L M K)) = true ∧ (∀ x ∈ flipW t (jW N L M K), x < 2 ^ 64) ∧ flipW t (flipW t (jW N L M K)) = jW N L M K := by
  have h' := h
  unfold jOk at h'
  simp only [Bool.and_eq_true, decide_eq_true_eq] at h'
  obtain ⟨⟨hL, hK⟩, hs⟩ := h'
  obtain ⟨n, rfl, hn, hl, _⟩ := okB_nat hL
  obtain ⟨m, rfl, hm, hk, _⟩ := okB_nat hK
  have eW : jW (n : Int) L (m : Int) K = wordsOf (bitsOf n L ++ bitsOf m K) := by unfold jW; rw [if_pos h, Int.toNat_natCast, Int.toNat_natCast]
  have eN : jN (n : Int) L (m : Int) K = ((n + m : Nat) : Int) := by unfold jN; rw [if_pos h]; simp
  have hB := joined_bits n m L K
  have hBl : (bitsOf n L ++ bitsOf m K).length = n + m := by simp [bitsOf_len]
  have hok := ok_words (n + m) _ hB hBl (by omega)
  obtain ⟨t, ht⟩ : ∃ t, n + m = t := ⟨_, rfl⟩
  have c1 := cnt_join2 n m L K 1
  have hwl := wordsOf_len (bitsOf n L ++ bitsOf m K)
  have hwb := wordsOf_lt _ hB
  rw [eW, eN]
  rw [hBl] at hwl
  rw [ht] at hok hwl ⊢
  generalize wordsOf (bitsOf n L ++ bitsOf m K) = J at *
  obtain ⟨t', et, ht5, _, htl⟩ := okB_nat hok
  have : t' = t := by omega
  subst this
  obtain ⟨f1, f2⟩ := flip_ok t' J hwl hwb (by omega)
  refine ⟨n, m, t', rfl, rfl, ht, by omega, rfl, hok, hwl, hwb, fun i hi => ?_, f1, f2, flip_twice t' J hwl hwb (by omega) htl⟩
  have r1 : rankV (t' : Int) J 1 ((n : Int) + (i : Int)) = (cnt J 1 (n + i) : Int) := by
    unfold rankV
    rw [if_pos ⟨hok, .inr rfl, by omega, by omega⟩]
    congr 2
  have r2 : rankV (t' : Int) (flipW t' J) 0 ((n : Int) + (i : Int)) = (cnt (flipW t' J) 0 (n + i) : Int) := by
    unfold rankV
    rw [if_pos ⟨f1, .inl rfl, by omega, by omega⟩]
    congr 2
  have r3 : rankV (n : Int) L 1 (n : Int) = (cnt L 1 n : Int) := by
    unfold rankV
    rw [if_pos ⟨hL, .inr rfl, by omega, by omega⟩, Int.toNat_natCast]
  have r4 : rankV (m : Int) K 1 (i : Int) = (cnt K 1 i : Int) := by
    unfold rankV
    rw [if_pos ⟨hK, .inr rfl, by omega, by omega⟩, Int.toNat_natCast]
  have s1 := cnt_sum J (n + i)
  have s2 := cnt_sum (flipW t' J) (n + i)
  have s3 := cnt_flip t' J hwl hwb (n + i) (by omega)
  have s4 := c1 i hi
  have b1 := cnt_le L 1 n
  have b2 := cnt_le K 1 i
  rw [r1, r2, r3, r4]
  omega

end Go.Proofs.YtlbnngolcoefdaaDoor
