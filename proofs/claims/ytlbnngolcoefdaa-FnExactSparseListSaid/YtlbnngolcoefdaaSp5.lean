/- The program's SparseOf, whole. -/
import Derived.Test.YtlbnngolcoefdaaSp4
import Derived.Test.YtlbnngolcoefdaaStage
import Derived.Deep.DeepCutAuto
namespace Go.Proofs.Ytlbnngolcoefdaa
open Go.RowKit
set_option maxRecDepth 100000

theorem spFits_nat {n : Nat} {u : Int} (h : spFits n u = true) : ∃ v : Nat, u = v ∧ v ≤ 1000000 ∧ fitsB n (lowV n v) = true ∧ hiV n v ≤ 5000 ∧ n ≤ 5000 := by
  unfold spFits at h
  rw [Bool.and_eq_true, Bool.and_eq_true, decide_eq_true_iff, decide_eq_true_iff] at h
  obtain ⟨⟨h1, h2⟩, h3, h4⟩ := h
  obtain ⟨v, rfl⟩ := Int.eq_ofNat_of_zero_le h1
  rw [Int.toNat_natCast] at h3 h4
  exact ⟨v, rfl, by omega, h3, h4, Nat.le_trans (Nat.le_trans (Nat.le_add_right _ _) (Nat.le_add_right _ _)) h4⟩

theorem sparse_yes {B : List Int} {u : Nat} {w : World} (hok : spOk B u = true) : ∀ e w', NewSparse w u B.length (poP (rems (lowV B.length u) B) (lowV B.length u)) (poN (rems (lowV B.length u) B) (lowV B.length u)) (poM (rems (lowV B.length u) B) (lowV B.length u)) (poW (rems (lowV B.length u) B) (lowV B.length u))
    (resN (hb B (lowV B.length u) B.length (hiV B.length u))) (resW (hb B (lowV B.length u) B.length (hiV B.length u))) true e w' → SparseRes B u w e w' := fun e w' h => by
  unfold SparseRes spU spN spP spM spK spW spH spV spHl spWd
  simp only [hok, if_true, Int.toNat_natCast]
  exact h

end Go.Proofs.Ytlbnngolcoefdaa
