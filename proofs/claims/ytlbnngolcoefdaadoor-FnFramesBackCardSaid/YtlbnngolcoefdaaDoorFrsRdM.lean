/- How a list of frames is read, step by step. -/
import Derived.Test.YtlbnngolcoefdaaDoorRdMath
import Derived.Test.YtlbnngolcoefdaaDoorFrsMath
namespace Go.Proofs.YtlbnngolcoefdaaDoor
open Go.RowKit

theorem rdV_nat {D : List Nat} {a : Nat} (h : a ≤ D.length) : rdV D a = frP (D.drop a) := by
  unfold rdV
  rcases Nat.lt_or_ge a D.length with hl | hl
  · rw [if_pos ⟨by omega, by omega⟩, Int.toNat_natCast]
  · rw [if_neg (by omega), List.drop_of_length_le hl]
    rfl
/-- The frames of D, and how many bytes they take. -/
def frsR (D : List Nat) : List (Nat × List Nat) × Nat := frsF (D.length + 1) D
/-- V are read, a bytes are gone. -/
def FrInv (D : List Nat) (V : List (Nat × List Nat)) (a f : Nat) : Prop := D.length - a < f ∧ a ≤ D.length ∧ frsR D = (V ++ (frsF f (D.drop a)).1, a + (frsF f (D.drop a)).2)
theorem FrInv.start (D : List Nat) : FrInv D [] 0 (D.length + 1) := ⟨by omega, by omega, by rw [List.drop_zero, List.nil_append, Nat.zero_add]; rfl⟩
theorem FrInv.step {D : List Nat} {V : List (Nat × List Nat)} {a f k l : Nat} {B : List Nat} (h : FrInv D V a f) (hD : ∀ x ∈ D, x < 2 ^ 8) (hp : frP (D.drop a) = some (k, B, l)) : 7 ≤ l ∧ a + l ≤ D.length ∧ FrInv D (V ++ [(k, B)]) (a + l) (f - 1) := by
  obtain ⟨h1, h2, h3⟩ := h
  obtain ⟨_, q2, _, _, q5, _⟩ := frP_some (fun x hx => hD x (List.mem_of_mem_drop hx)) hp
  rw [List.length_drop] at q2
  obtain ⟨f, rfl⟩ : ∃ f', f = f' + 1 := ⟨f - 1, by omega⟩
  refine ⟨q5, by omega, by omega, by omega, ?_⟩
  rw [h3, frsF, hp]
  simp only [List.drop_drop, List.append_assoc, List.cons_append, List.nil_append, Nat.add_sub_cancel, Nat.add_assoc]
theorem FrInv.done {D : List Nat} {V : List (Nat × List Nat)} {a f : Nat} (h : FrInv D V a f) (hp : frP (D.drop a) = none) : frsR D = (V, a) := by
  obtain ⟨_, _, h3⟩ := h
  rw [h3, frsF_none hp, List.append_nil, Nat.add_zero]
/-- What FramesRead returns. -/
def frsN (D : List Nat) : Int := if D.length ≤ 8000 then ((frsR D).2 : Int) else -1
def frsV (D : List Nat) : List (Int × List Nat) := if D.length ≤ 8000 then (frsR D).1.map (fun p => ((p.1 : Int), p.2)) else []
/-- How much is read is at most what there is. -/
theorem FrInv.tot {D : List Nat} {V : List (Nat × List Nat)} {a f : Nat} (h : FrInv D V a f) : a ≤ D.length := h.2.1

end Go.Proofs.YtlbnngolcoefdaaDoor
