/- Lists of frames as mathematics: their bytes, how they are read again, and what a cut leaves. -/
import Derived.Test.YtlbnngolcoefdaaDoorRdMath
namespace Go.Proofs.YtlbnngolcoefdaaDoor
open Go.RowKit

/-- The bytes of a list of frames. -/
def frsB : List (Nat × List Nat) → List Nat
  | [] => []
  | p :: r => frB p.1 p.2 ++ frsB r
/-- The frames at the front of a list of bytes, and how many bytes they take. -/
def frsF : Nat → List Nat → List (Nat × List Nat) × Nat
  | 0, _ => ([], 0)
  | f + 1, C => match frP C with
    | none => ([], 0)
    | some (k, B, l) => ((k, B) :: (frsF f (C.drop l)).1, l + (frsF f (C.drop l)).2)

theorem frsB_append (P Q : List (Nat × List Nat)) : frsB (P ++ Q) = frsB P ++ frsB Q := by
  induction P with
  | nil => rfl
  | cons p r ih => simp only [List.cons_append, frsB, ih, List.append_assoc]

theorem frsF_none {C : List Nat} (h : frP C = none) (f : Nat) : frsF f C = ([], 0) := by
  cases f with
  | zero => rfl
  | succ f => rw [frsF, h]

/-- Frames are read again, and what follows is left. -/
theorem frsF_back : ∀ (P : List (Nat × List Nat)) (rest : List Nat) (f : Nat), (∀ p ∈ P, p.2.length ≤ 8000) → frP rest = none → P.length ≤ f → frsF f (frsB P ++ rest) = (P, (frsB P).length)
  | [], rest, f, _, hr, _ => by
    rw [frsB, List.nil_append, frsF_none hr]
    rfl
  | p :: P, rest, f, hP, hr, hf => by
    obtain ⟨f, rfl⟩ : ∃ g, f = g + 1 := ⟨f - 1, by simp only [List.length_cons] at hf; omega⟩
    have hb := frP_back p.1 p.2 (frsB P ++ rest) (hP p (by simp))
    have ih := frsF_back P rest f (fun q hq => hP q (by simp [hq])) hr (by simp only [List.length_cons] at hf; omega)
    rw [frsB, List.append_assoc, frsF, hb]
    simp only [List.drop_left, ih, List.length_append]

/-- A frame that is cut short is none. -/
theorem frP_cut {k : Nat} {L : List Nat} {m : Nat} (hL : L.length ≤ 8000) (hB : ∀ x ∈ frB k L, x < 2 ^ 8) (hm : m < (frB k L).length) : frP ((frB k L).take m) = none := by
  cases h : frP ((frB k L).take m) with
  | none => rfl
  | some r =>
    obtain ⟨k', B', l'⟩ := r
    obtain ⟨h1, h2, h3, _⟩ := frP_some (fun x hx => hB x (List.mem_of_mem_take hx)) h
    rw [List.length_take] at h2
    rw [List.take_take, Nat.min_eq_left (by omega)] at h1
    have e : frB k L = frB k' B' ++ (frB k L).drop l' := by rw [← h1, List.take_append_drop]
    have b1 := frP_back k' B' ((frB k L).drop l') h3
    have b2 := frP_back k L [] hL
    rw [← e] at b1
    rw [List.append_nil, b1] at b2
    have e2 : (frB k' B').length = (frB k L).length := by
      simp only [Option.some.injEq, Prod.mk.injEq] at b2
      exact b2.2.2
    have e3 : (frB k' B').length = l' := by rw [← h1, List.length_take]; omega
    omega

/-- All that the law asks of frames whose last one is cut short. -/
theorem frames_cut {P : List (Nat × List Nat)} {k : Nat} {L : List Nat} {c f : Nat} (hP : ∀ p ∈ P, p.2.length ≤ 8000) (hL : L.length ≤ 8000) (hB : ∀ x ∈ frB k L, x < 2 ^ 8) (hc : c < (frB k L).length) (hf : P.length ≤ f) :
    frsF f ((frsB (P ++ [(k, L)])).take ((frsB (P ++ [(k, L)])).length - 1 - c)) = (P, (frsB P).length) := by
  rw [frsB_append]
  have e1 : frsB [(k, L)] = frB k L := by simp only [frsB, List.append_nil]
  rw [e1, List.length_append]
  obtain ⟨m, hm⟩ : ∃ m, (frB k L).length - 1 - c = m := ⟨_, rfl⟩
  have e2 : (frsB P).length + (frB k L).length - 1 - c = (frsB P).length + m := by omega
  rw [e2, List.take_length_add_append]
  exact frsF_back P _ f hP (frP_cut hL hB (by omega)) hf

/-- What FramesOf is to return behind the bytes that it has. -/
def foF : List Nat → List (Int × List Nat) → Option (List Nat)
  | out, [] => some out
  | out, p :: r => if okF p.1 p.2.length = true ∧ (out ++ frV p.1 p.2).length ≤ 8000 then foF (out ++ frV p.1 p.2) r else none

theorem foF_some : ∀ (P : List (Int × List Nat)) (out D : List Nat), foF out P = some D → (∀ p ∈ P, okF p.1 p.2.length = true) ∧ D = out ++ frsB (P.map fun p => (p.1.toNat, p.2))
  | [], out, D, h => by
    rw [foF] at h
    cases h
    exact ⟨by simp, by simp [frsB]⟩
  | p :: P, out, D, h => by
    rw [foF] at h
    split at h
    · rename_i hp
      obtain ⟨h1, h2⟩ := foF_some P _ D h
      refine ⟨fun q hq => ?_, ?_⟩
      · rcases List.mem_cons.1 hq with rfl | hq
        · exact hp.1
        · exact h1 q hq
      · rw [h2, List.map_cons, frsB, ← List.append_assoc]
        have : frV p.1 p.2 = frB p.1.toNat p.2 := by unfold frV; rw [if_pos hp.1]
        rw [this]
    · cases h

theorem foF_len : ∀ (P : List (Int × List Nat)) (out D : List Nat), foF out P = some D → out.length ≤ 8000 → D.length ≤ 8000
  | [], out, D, h, ho => by
    rw [foF] at h
    cases h
    exact ho
  | p :: P, out, D, h, ho => by
    rw [foF] at h
    split at h
    · rename_i hp
      exact foF_len P _ D h hp.2
    · cases h

end Go.Proofs.YtlbnngolcoefdaaDoor
