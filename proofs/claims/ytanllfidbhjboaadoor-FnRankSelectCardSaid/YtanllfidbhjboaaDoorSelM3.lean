/- Plain mathematics of the law of Rank and Select. -/
import Derived.Test.YtanllfidbhjboaaDoorSel1
import Derived.Test.YtanllfidbhjboaaDoorJoinMath
namespace Go.Proofs.YtanllfidbhjboaaDoor

theorem cnt_other (L : List Nat) (b : Int) (hb : b = 0 ∨ b = 1) (i : Nat) : cnt L (1 - b) i + cnt L b i = i := by
  rcases hb with rfl | rfl
  · have := cnt_sum L i
    simp only [Int.sub_zero]
    omega
  · have := cnt_sum L i
    simp only [Int.sub_self]
    omega

/-- What the law asks where Select finds a place. -/
theorem sel_law {N : Int} {L : List Nat} {b k : Int} (h : 0 ≤ selV N L b k) : ∃ n m i : Nat, N = n ∧ k = m ∧ n ≤ 5000 ∧ i < n ∧ m ≤ i ∧ (b = 0 ∨ b = 1) ∧ okB n L = true ∧ selV N L b k = i ∧ (bitN L i : Int) = b ∧
    rankV n L b i = m ∧ rankV n L b ((i : Int) + 1) = (m : Int) + 1 ∧ rankV n L (1 - b) i = (i : Int) - (m : Int) := by
  unfold selV at h ⊢
  by_cases hc : okB N L = true ∧ (b = 0 ∨ b = 1) ∧ 0 ≤ k
  · rw [if_pos hc] at h ⊢
    obtain ⟨hok, hb, hk⟩ := hc
    obtain ⟨n, rfl, hn, _, _⟩ := okB_nat hok
    obtain ⟨m, rfl⟩ : ∃ m : Nat, k = m := ⟨k.toNat, by omega⟩
    rw [Int.toNat_natCast, Int.toNat_natCast] at h ⊢
    cases hs : selN L b n m with
    | none => rw [hs] at h; simp at h
    | some i =>
      have h1 := List.find?_some hs
      have h2 := List.mem_of_find?_eq_some hs
      rw [decide_eq_true_eq] at h1
      rw [List.mem_range] at h2
      have c1 := cnt_yes L b i h1.1
      have c2 := cnt_other L b hb i
      have c3 := cnt_le L b i
      refine ⟨n, m, i, rfl, rfl, hn, h2, by omega, hb, hok, rfl, h1.1, ?_, ?_, ?_⟩
      · unfold rankV
        rw [if_pos ⟨hok, hb, by omega, by omega⟩, Int.toNat_natCast, h1.2]
      · unfold rankV
        rw [if_pos ⟨hok, hb, by omega, by omega⟩, show ((i : Int) + 1).toNat = i + 1 by omega, c1, h1.2]
        omega
      · unfold rankV
        rw [if_pos ⟨hok, by omega, by omega, by omega⟩, Int.toNat_natCast]
        omega
  · rw [if_neg hc] at h
    omega

end Go.Proofs.YtanllfidbhjboaaDoor
