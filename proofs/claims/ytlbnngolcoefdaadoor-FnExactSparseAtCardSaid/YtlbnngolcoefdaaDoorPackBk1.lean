/- Plain mathematics of FnPackBack: what was packed is valid, and is the list. -/
import Derived.Test.YtlbnngolcoefdaaDoorPk7
import Derived.Test.YtlbnngolcoefdaaDoorPk3
namespace Go.Proofs.YtlbnngolcoefdaaDoor

theorem digits_bit (T V i : Nat) (h : i / 64 < T) : bitN (digits T V) i = V / 2 ^ i % 2 := by
  unfold bitN
  rw [List.getD_eq_getElem?_getD, digits_get _ _ _ h, Option.getD_some]
  have e : ∀ y : Nat, y % 2 = if y.testBit 0 then 1 else 0 := fun y => by
    rw [Nat.testBit_zero]
    by_cases hy : y % 2 = 1
    · simp [hy]
    · have : y % 2 = 0 := by omega
      simp [this]
  rw [e, e]
  congr 1
  rw [Nat.testBit_div_two_pow, Nat.testBit_mod_two_pow, Nat.testBit_div_two_pow, Nat.testBit_div_two_pow]
  have h1 : 0 + i % 64 < 64 := by omega
  have h2 : 0 + i % 64 + 64 * (i / 64) = 0 + i := by omega
  simp only [h1, h2, decide_true, Bool.true_and]
theorem digits_val (m V : Nat) (hV : V < 2 ^ m) : val (bitsOf m (digits ((m + 63) / 64) V)) = V := by
  have e : bitsOf m (digits ((m + 63) / 64) V) = (List.range m).map fun i => ((V / 2 ^ i % 2 : Nat) : Int) := by
    unfold bitsOf
    apply List.map_congr_left
    intro i hi
    rw [List.mem_range] at hi
    rw [digits_bit _ _ _ (by omega)]
  rw [e, val_digits, Nat.mod_eq_of_lt hV]
theorem digits_tail (m V : Nat) (hV : V < 2 ^ m) : tailB m (digits ((m + 63) / 64) V) = true := by
  unfold tailB
  rw [Bool.or_eq_true, beq_iff_eq, beq_iff_eq]
  by_cases h : m % 64 = 0
  · exact .inl h
  · right
    rw [List.getD_eq_getElem?_getD, digits_get _ _ _ (by omega), Option.getD_some]
    have h1 : V / 2 ^ (64 * (m / 64)) < 2 ^ (m % 64) := by
      rw [Nat.div_lt_iff_lt_mul (Nat.two_pow_pos _), ← Nat.pow_add, show m % 64 + 64 * (m / 64) = m by omega]
      exact hV
    exact Nat.div_eq_of_lt (Nat.lt_of_le_of_lt (Nat.mod_le _ _) h1)

/-- What PackOf packs is valid, and is the list again. -/
theorem pack_back (L : List Int) (wd : Int) (h : poOk L wd = true) : okP (poP L wd) (poN L wd) (poM L wd) (poW L wd) = true ∧ plV (poP L wd) (poN L wd) (poM L wd) (poW L wd) = L ∧
    (∀ k : Nat, (hk : k < L.length) → paV (poP L wd) (poN L wd) (poM L wd) (poW L wd) k = L[k]) ∧ paV (poP L wd) (poN L wd) (poM L wd) (poW L wd) (L.length : Int) = -1 ∧ (∃ d : Nat, wd = d ∧ d ≤ 32) ∧ L.length ≤ 5000 := by
  have h0 := h
  unfold poOk at h0
  rw [Bool.and_eq_true, List.all_eq_true] at h0
  obtain ⟨d, rfl, h1, h2, h3⟩ := fits_nat h0.1
  have hall : ∀ n ∈ L, 0 ≤ n ∧ n < 2 ^ d := fun n hn => by
    have := h0.2 n hn
    rw [decide_eq_true_iff] at this
    exact this
  have eP : poP L d = d := if_pos h
  have eN : poN L d = (L.length : Int) := if_pos h
  have eM : poM L d = ((L.length * d : Nat) : Int) := by unfold poM; rw [if_pos h]; simp
  have eW : poW L d = digits ((L.length * d + 63) / 64) (packNum d L) := by unfold poW; rw [if_pos h, Int.toNat_natCast]
  have hV := packNum_lt d L
  have hok : okP (d : Int) (L.length : Int) ((L.length * d : Nat) : Int) (digits ((L.length * d + 63) / 64) (packNum d L)) = true := by
    unfold okP okB
    rw [Bool.and_eq_true, decide_eq_true_iff, Bool.and_eq_true, decide_eq_true_iff, Int.toNat_natCast, digits_len]
    exact ⟨⟨by omega, by omega, by omega, by omega, by simp⟩, ⟨by omega, by omega, rfl⟩, digits_tail _ _ hV⟩
  rw [eP, eN, eM, eW]
  refine ⟨hok, ?_, ?_, ?_, ⟨d, rfl, h1⟩, h2⟩
  · unfold plV
    rw [if_pos hok, Int.toNat_natCast, Int.toNat_natCast, Int.toNat_natCast, digits_val _ _ hV]
    apply List.ext_getElem?
    intro k
    by_cases hk : k < L.length
    · rw [unpack_get _ _ _ _ hk, packNum_get d L hall k hk, List.getElem?_eq_getElem hk]
    · rw [List.getElem?_eq_none (by rw [unpack_len]; omega), List.getElem?_eq_none (by omega)]
  · intro k hk
    unfold paV
    rw [if_pos ⟨hok, by omega, by omega⟩, Int.toNat_natCast, Int.toNat_natCast, Int.toNat_natCast, digits_val _ _ hV, packNum_get d L hall k hk]
  · unfold paV
    rw [if_neg (fun h => by omega)]

end Go.Proofs.YtlbnngolcoefdaaDoor
