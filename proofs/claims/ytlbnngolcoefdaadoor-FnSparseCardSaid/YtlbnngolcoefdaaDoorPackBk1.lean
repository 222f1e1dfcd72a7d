import Derived.Test.YtlbnngolcoefdaaDoorRankMath
import Derived.Test.YtlbnngolcoefdaaDoorFlipMath
import Derived.Test.YtlbnngolcoefdaaDoorPk7
import Derived.Test.YtlbnngolcoefdaaDoorPk3
/- Plain mathematics of the k-th bit 1 of a word, and of the k-th bit of a list of words. -/
namespace Go.Proofs.YtlbnngolcoefdaaDoor

/-- The odd part of a number. -/
theorem odd_part : ∀ (n x : Nat), 0 < x → x < 2 ^ n → ∃ i q, i < n ∧ x = 2 ^ (i + 1) * q + 2 ^ i
  | 0, x, h0, h => by simp at h; omega
  | n + 1, x, h0, h => by
    by_cases h2 : x % 2 = 1
    · exact ⟨0, x / 2, by omega, by simp; omega⟩
    · obtain ⟨i, q, hi, e⟩ := odd_part n (x / 2) (by omega) (by rw [Nat.pow_succ] at h; omega)
      refine ⟨i + 1, q, by omega, ?_⟩
      have e2 : x = 2 * (x / 2) := by omega
      rw [e2, e, Nat.mul_add, ← Nat.mul_assoc]
      rw [Nat.pow_succ 2 (i + 1), Nat.mul_comm (2 ^ (i + 1)) 2, Nat.pow_succ 2 i, Nat.mul_comm (2 ^ i) 2]

theorem and_parts (k a b a' b' : Nat) (hb : b < 2 ^ k) (hb' : b' < 2 ^ k) : (2 ^ k * a + b) &&& (2 ^ k * a' + b') = 2 ^ k * (a &&& a') + (b &&& b') := by
  have hbb : b &&& b' < 2 ^ k := Nat.lt_of_le_of_lt Nat.and_le_left hb
  apply Nat.eq_of_testBit_eq
  intro j
  rw [Nat.testBit_and, Nat.testBit_two_pow_mul_add _ hb, Nat.testBit_two_pow_mul_add _ hb', Nat.testBit_two_pow_mul_add _ hbb]
  by_cases hj : j < k
  · rw [if_pos hj, if_pos hj, if_pos hj, Nat.testBit_and]
  · rw [if_neg hj, if_neg hj, if_neg hj, Nat.testBit_and]

theorem and_pred (i q : Nat) : (2 ^ (i + 1) * q + 2 ^ i) &&& (2 ^ (i + 1) * q + 2 ^ i - 1) = 2 ^ (i + 1) * q := by
  have hp := Nat.two_pow_pos i
  have h2 : 2 ^ (i + 1) = 2 * 2 ^ i := by rw [Nat.pow_succ, Nat.mul_comm]
  rw [show 2 ^ (i + 1) * q + 2 ^ i - 1 = 2 ^ (i + 1) * q + (2 ^ i - 1) by omega, and_parts _ _ _ _ _ (by omega) (by omega), Nat.and_self, Nat.and_two_pow_sub_one_eq_mod, Nat.mod_self, Nat.add_zero]

theorem and_compl (m q : Nat) (h : q < 2 ^ m) : q &&& (2 ^ m - 1 - q) = 0 := by
  apply Nat.eq_of_testBit_eq
  intro j
  rw [show 2 ^ m - 1 - q = 2 ^ m - (q + 1) by omega, Nat.testBit_and, Nat.testBit_two_pow_sub_succ h, Nat.zero_testBit]
  cases q.testBit j <;> simp

theorem and_neg (n i q : Nat) (hi : i < n) (h : 2 ^ (i + 1) * q + 2 ^ i < 2 ^ n) : (2 ^ (i + 1) * q + 2 ^ i) &&& (2 ^ n - (2 ^ (i + 1) * q + 2 ^ i)) = 2 ^ i := by
  have hp := Nat.two_pow_pos i
  have h2 : 2 ^ (i + 1) = 2 * 2 ^ i := by rw [Nat.pow_succ, Nat.mul_comm]
  obtain ⟨m, rfl⟩ : ∃ m, n = i + 1 + m := ⟨n - (i + 1), by omega⟩
  have hn : 2 ^ (i + 1 + m) = 2 ^ (i + 1) * 2 ^ m := Nat.pow_add _ _ _
  have hq : q < 2 ^ m := by
    rw [hn] at h
    exact Nat.lt_of_mul_lt_mul_left (a := 2 ^ (i + 1)) (by omega)
  obtain ⟨r, hr⟩ : ∃ r, 2 ^ m = q + 1 + r := ⟨2 ^ m - (q + 1), by omega⟩
  have e : 2 ^ (i + 1 + m) - (2 ^ (i + 1) * q + 2 ^ i) = 2 ^ (i + 1) * r + 2 ^ i := by
    rw [hn, hr, Nat.mul_add, Nat.mul_add, Nat.mul_one]
    omega
  have hr2 : r = 2 ^ m - 1 - q := by omega
  rw [e, and_parts _ _ _ _ _ (by omega) (by omega), hr2, and_compl m q hq, Nat.mul_zero, Nat.zero_add, Nat.and_self]

/-- What is left of a word after its first k bits 1 have been cleared: those from p on. -/
def Cleared (x k y : Nat) : Prop := ∃ p, y = x / 2 ^ p * 2 ^ p ∧ popN p x = k

theorem cleared_zero (x : Nat) : Cleared x 0 x := ⟨0, by simp, rfl⟩

theorem popN_mul (d z : Nat) : popN d (2 ^ d * z) = 0 := by
  rw [← popN_mod, Nat.mul_mod_right]
  induction d with
  | zero => rfl
  | succ d ih => rw [popN, ih]

theorem cleared_low {x k y i q : Nat} (h : Cleared x k y) (hy : y = 2 ^ (i + 1) * q + 2 ^ i) : popN i x = k ∧ x / 2 ^ i % 2 = 1 ∧ Cleared x (k + 1) (2 ^ (i + 1) * q) := by
  obtain ⟨p, hp, hk⟩ := h
  have hi0 := Nat.two_pow_pos i
  have h2 : 2 ^ (i + 1) = 2 ^ i * 2 := Nat.pow_succ _ _
  have hy2 : y = 2 ^ i * (2 * q + 1) := by rw [hy, h2, Nat.mul_add, Nat.mul_one, Nat.mul_assoc]
  have hpi : p ≤ i := by
    rcases Nat.lt_or_ge i p with hlt | hge
    · exfalso
      obtain ⟨d, rfl⟩ : ∃ d, p = i + 1 + d := ⟨p - (i + 1), by omega⟩
      have e : 2 ^ i * (2 * q + 1) = 2 ^ i * (2 * (x / 2 ^ (i + 1 + d) * 2 ^ d)) := by
        rw [← hy2, hp, Nat.pow_add, h2]
        simp only [Nat.mul_comm, Nat.mul_left_comm, Nat.mul_assoc]
      have := Nat.eq_of_mul_eq_mul_left hi0 e
      omega
    · exact hge
  obtain ⟨d, rfl⟩ : ∃ d, i = p + d := ⟨i - p, by omega⟩
  have hp0 := Nat.two_pow_pos p
  have hd0 := Nat.two_pow_pos d
  have hx : x / 2 ^ p = 2 ^ d * (2 * q + 1) := by
    have : 2 ^ p * (x / 2 ^ p) = 2 ^ p * (2 ^ d * (2 * q + 1)) := by rw [Nat.mul_comm (2 ^ p), ← hp, hy2, Nat.pow_add, Nat.mul_assoc]
    exact Nat.eq_of_mul_eq_mul_left hp0 this
  have hxi : x / 2 ^ (p + d) = 2 * q + 1 := by
    rw [Nat.pow_add, ← Nat.div_div_eq_div_mul, hx, Nat.mul_div_cancel_left _ hd0]
  have hpop : popN (p + d) x = k := by rw [popN_add, hk, hx, popN_mul, Nat.add_zero]
  refine ⟨hpop, by rw [hxi]; omega, p + d + 1, ?_, ?_⟩
  · rw [Nat.pow_succ, ← Nat.div_div_eq_div_mul, hxi, show (2 * q + 1) / 2 = q by omega, Nat.mul_comm]
  · rw [popN_succ, hpop, hxi]
    omega

theorem cleared_some {x k y n : Nat} (h : Cleared x k y) (hx : x < 2 ^ n) (hk : k < popN n x) : 0 < y ∧ y < 2 ^ n := by
  obtain ⟨p, hp, hk2⟩ := h
  have hle : y ≤ x := by rw [hp]; exact Nat.div_mul_le_self _ _
  refine ⟨?_, by omega⟩
  rcases Nat.eq_zero_or_pos y with h0 | h0
  · exfalso
    rw [h0] at hp
    have hz : x / 2 ^ p = 0 := by
      rcases Nat.mul_eq_zero.1 hp.symm with h | h
      · exact h
      · have := Nat.two_pow_pos p
        omega
    have e1 : popN n x ≤ popN (n + p) x := by rw [popN_add]; omega
    rw [Nat.add_comm n p, popN_add, hz, hk2] at e1
    have e2 : popN n 0 = 0 := by have := popN_mul n 0; rwa [Nat.mul_zero] at this
    omega
  · exact h0

/-- Where the k-th of the first n bits that are b stands. -/
def selN (L : List Nat) (b : Int) (n k : Nat) : Option Nat := (List.range n).find? fun i => decide ((bitN L i : Int) = b ∧ cnt L b i = k)

theorem cnt_mono (L : List Nat) (b : Int) (i : Nat) : ∀ d, cnt L b i ≤ cnt L b (i + d)
  | 0 => Nat.le_refl _
  | d + 1 => by
    have := cnt_mono L b i d
    rw [← Nat.add_assoc, cnt]
    omega

theorem selN_some (L : List Nat) (b : Int) (n k i : Nat) (hi : i < n) (hb : (bitN L i : Int) = b) (hc : cnt L b i = k) : selN L b n k = some i := by
  unfold selN
  rw [List.find?_range_eq_some]
  refine ⟨by simp [hb, hc], by simpa using hi, fun j hj => ?_⟩
  simp only [Bool.not_eq_true', decide_eq_false_iff_not]
  rintro ⟨h1, h2⟩
  have e1 := cnt_yes L b j h1
  obtain ⟨d, rfl⟩ : ∃ d, i = j + 1 + d := ⟨i - (j + 1), by omega⟩
  have := cnt_mono L b (j + 1) d
  omega

theorem selN_none (L : List Nat) (b : Int) (n k : Nat) (h : cnt L b n ≤ k) : selN L b n k = none := by
  unfold selN
  rw [List.find?_eq_none]
  intro i hi
  have hi' : i < n := by simpa using hi
  simp only [decide_eq_true_eq]
  rintro ⟨h1, h2⟩
  have e1 := cnt_yes L b i h1
  obtain ⟨d, rfl⟩ : ∃ d, n = i + 1 + d := ⟨n - (i + 1), by omega⟩
  have := cnt_mono L b (i + 1) d
  omega

/-- What Select is to return. -/
def selV (N : Int) (L : List Nat) (b k : Int) : Int := if okB N L = true ∧ (b = 0 ∨ b = 1) ∧ 0 ≤ k then (match selN L b N.toNat k.toNat with | some i => (i : Int) | none => -1) else -1

end Go.Proofs.YtlbnngolcoefdaaDoor

/- Plain mathematics: the bits of a flipped vector, and bits behind the last one. -/
namespace Go.Proofs.YtlbnngolcoefdaaDoor

theorem bit_test (x r : Nat) : x / 2 ^ r % 2 = if x.testBit r = true then 1 else 0 := by
  rw [Nat.testBit_eq_decide_div_mod_eq]
  have := Nat.mod_lt (x / 2 ^ r) (show 0 < 2 by omega)
  by_cases h : x / 2 ^ r % 2 = 1
  · simp [h]
  · simp [h]; omega

theorem bitN_flip (n : Nat) (L : List Nat) (hl : L.length = (n + 63) / 64) (hw : ∀ x ∈ L, x < 2 ^ 64) (i : Nat) : bitN (flipW n L) i = if i < n then 1 - bitN L i else 0 := by
  unfold bitN
  by_cases hj : i / 64 < L.length
  · obtain ⟨x, hx⟩ : ∃ x, L[i / 64]? = some x := ⟨_, List.getElem?_eq_getElem hj⟩
    have hx64 := hw x (List.mem_of_getElem? hx)
    rw [List.getD_eq_getElem?_getD, List.getD_eq_getElem?_getD, flipW_get n L _ x hx, hx, Option.getD_some, Option.getD_some, bit_test, bit_test, Nat.testBit_mod_two_pow, show 18446744073709551615 - x = 2 ^ 64 - (x + 1) by omega, Nat.testBit_two_pow_sub_succ hx64]
    by_cases hi : i < n
    · rw [if_pos hi, decide_eq_true (show i % 64 < min 64 (n - 64 * (i / 64)) by omega), decide_eq_true (show i % 64 < 64 by omega)]
      cases x.testBit (i % 64) <;> rfl
    · rw [if_neg hi, decide_eq_false (show ¬ i % 64 < min 64 (n - 64 * (i / 64)) by omega)]
      simp
  · rw [List.getD_eq_getElem?_getD, List.getElem?_eq_none (by rw [flipW_len]; omega), Option.getD_none, if_neg (by omega)]
    simp

theorem cnt_flip (n : Nat) (L : List Nat) (hl : L.length = (n + 63) / 64) (hw : ∀ x ∈ L, x < 2 ^ 64) : ∀ i, i ≤ n → cnt (flipW n L) 1 i = cnt L 0 i
  | 0, _ => rfl
  | i + 1, h => by
    have e := bitN_flip n L hl hw i
    rw [if_pos (by omega)] at e
    have hb := bitN_lt L i
    rw [cnt, cnt, cnt_flip n L hl hw i (by omega), e]
    by_cases h0 : bitN L i = 0
    · rw [if_pos (by omega), if_pos (by omega)]
    · rw [if_neg (by omega), if_neg (by omega)]

end Go.Proofs.YtlbnngolcoefdaaDoor

/- Plain mathematics of FnPackBack: what was packed is valid, and is the list. -/
namespace Go.Proofs.YtlbnngolcoefdaaDoor

theorem digits_bit (T V i : Nat) (h : i / 64 < T) : bitN (digits T V) i = V / 2 ^ i % 2 := by
  unfold bitN
  rw [List.getD_eq_getElem?_getD, digits_get _ _ _ h, Option.getD_some]
  have e : ∀ y : Nat, y % 2 = if y.testBit 0 then 1 else 0 := fun y => by
    rw [Nat.testBit_zero]
    by_cases hy : y % 2 = 1
    · simp [hy]
    · have : y % 2 = 0 := by omega
      simp [this]
  rw [e, e]
  congr 1
  rw [Nat.testBit_div_two_pow, Nat.testBit_mod_two_pow, Nat.testBit_div_two_pow, Nat.testBit_div_two_pow]
  have h1 : 0 + i % 64 < 64 := by omega
  have h2 : 0 + i % 64 + 64 * (i / 64) = 0 + i := by omega
  simp only [h1, h2, decide_true, Bool.true_and]
theorem digits_val (m V : Nat) (hV : V < 2 ^ m) : val (bitsOf m (digits ((m + 63) / 64) V)) = V := by
  have e : bitsOf m (digits ((m + 63) / 64) V) = (List.range m).map fun i => ((V / 2 ^ i % 2 : Nat) : Int) := by
    unfold bitsOf
    apply List.map_congr_left
    intro i hi
    rw [List.mem_range] at hi
    rw [digits_bit _ _ _ (by omega)]
  rw [e, val_digits, Nat.mod_eq_of_lt hV]
theorem digits_tail (m V : Nat) (hV : V < 2 ^ m) : tailB m (digits ((m + 63) / 64) V) = true := by
  unfold tailB
  rw [Bool.or_eq_true, beq_iff_eq, beq_iff_eq]
  by_cases h : m % 64 = 0
  · exact .inl h
  · right
    rw [List.getD_eq_getElem?_getD, digits_get _ _ _ (by omega), Option.getD_some]
    have h1 : V / 2 ^ (64 * (m / 64)) < 2 ^ (m % 64) := by
      rw [Nat.div_lt_iff_lt_mul (Nat.two_pow_pos _), ← Nat.pow_add, show m % 64 + 64 * (m / 64) = m by omega]
      exact hV
    exact Nat.div_eq_of_lt (Nat.lt_of_le_of_lt (Nat.mod_le _ _) h1)

/-- What PackOf packs is valid, and is the list again. -/
theorem pack_back (L : List Int) (wd : Int) (h : poOk L wd = true) : okP (poP L wd) (poN L wd) (poM L wd) (poW L wd) = true ∧ plV (poP L wd) (poN L wd) (poM L wd) (poW L wd) = L ∧
    (∀ k : Nat, (hk : k < L.length) → paV (poP L wd) (poN L wd) (poM L wd) (poW L wd) k = L[k]) ∧ paV (poP L wd) (poN L wd) (poM L wd) (poW L wd) (L.length : Int) = -1 ∧ (∃ d : Nat, wd = d ∧ d ≤ 32) ∧ L.length ≤ 5000 := by
  have h0 := h
  unfold poOk at h0
  rw [Bool.and_eq_true, List.all_eq_true] at h0
  obtain ⟨d, rfl, h1, h2, h3⟩ := fits_nat h0.1
  have hall : ∀ n ∈ L, 0 ≤ n ∧ n < 2 ^ d := fun n hn => by
    have := h0.2 n hn
    rw [decide_eq_true_iff] at this
    exact this
  have eP : poP L d = d := if_pos h
  have eN : poN L d = (L.length : Int) := if_pos h
  have eM : poM L d = ((L.length * d : Nat) : Int) := by unfold poM; rw [if_pos h]; simp
  have eW : poW L d = digits ((L.length * d + 63) / 64) (packNum d L) := by unfold poW; rw [if_pos h, Int.toNat_natCast]
  have hV := packNum_lt d L
  have hok : okP (d : Int) (L.length : Int) ((L.length * d : Nat) : Int) (digits ((L.length * d + 63) / 64) (packNum d L)) = true := by
    unfold okP okB
    rw [Bool.and_eq_true, decide_eq_true_iff, Bool.and_eq_true, decide_eq_true_iff, Int.toNat_natCast, digits_len]
    exact ⟨⟨by omega, by omega, by omega, by omega, by simp⟩, ⟨by omega, by omega, rfl⟩, digits_tail _ _ hV⟩
  rw [eP, eN, eM, eW]
  refine ⟨hok, ?_, ?_, ?_, ⟨d, rfl, h1⟩, h2⟩
  · unfold plV
    rw [if_pos hok, Int.toNat_natCast, Int.toNat_natCast, Int.toNat_natCast, digits_val _ _ hV]
    apply List.ext_getElem?
    intro k
    by_cases hk : k < L.length
    · rw [unpack_get _ _ _ _ hk, packNum_get d L hall k hk, List.getElem?_eq_getElem hk]
    · rw [List.getElem?_eq_none (by rw [unpack_len]; omega), List.getElem?_eq_none (by omega)]
  · intro k hk
    unfold paV
    rw [if_pos ⟨hok, by omega, by omega⟩, Int.toNat_natCast, Int.toNat_natCast, Int.toNat_natCast, digits_val _ _ hV, packNum_get d L hall k hk]
  · unfold paV
    rw [if_neg (fun h => by omega)]

end Go.Proofs.YtlbnngolcoefdaaDoor
