/- More plain mathematics of bit vectors. -/
import Derived.Test.YtoehgcakfblblaaBitMath
namespace Go.Proofs.Ytoehgcakfblblaa

/-- What BitAt is to return. -/
def bitAtV (N : Int) (L : List Nat) (i : Int) : Int := if okB N L = true ∧ 0 ≤ i ∧ i < N then (bitN L i.toNat : Int) else -1

theorem okB_nat {N : Int} {L : List Nat} (h : okB N L = true) : ∃ n : Nat, N = n ∧ n ≤ 5000 ∧ L.length = (n + 63) / 64 ∧ tailB n L = true := by
  unfold okB at h
  rw [Bool.and_eq_true, decide_eq_true_iff] at h
  obtain ⟨⟨h0, h1, h2⟩, h3⟩ := h
  exact ⟨N.toNat, by omega, by omega, h2, h3⟩

end Go.Proofs.Ytoehgcakfblblaa
