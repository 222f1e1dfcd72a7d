/- All the mathematics of FnFramesBack: what FramesOf makes is read again, and what a cut leaves. -/
import Derived.Test.YtlbnngolcoefdaaDoorFrsRdM
import Derived.Test.YtlbnngolcoefdaaDoorVarRd3
namespace Go.Proofs.YtlbnngolcoefdaaDoor
open Go.RowKit

/-- A frame's kind as a number of its own. -/
def tnF (p : Int × List Nat) : Nat × List Nat := (p.1.toNat, p.2)
theorem tnF_back : ∀ {V : List (Int × List Nat)}, (∀ p ∈ V, okF p.1 p.2.length = true) → (V.map tnF).map (fun p => ((p.1 : Int), p.2)) = V
  | [], _ => rfl
  | v :: V, h => by
    rw [List.map_cons, List.map_cons, tnF_back fun p hp => h p (List.mem_cons_of_mem _ hp)]
    have h1 := of_decide_eq_true (h v (List.mem_cons_self ..))
    have e : ((tnF v).1 : Int) = v.1 := Int.toNat_of_nonneg h1.1
    rw [e]
    rfl
theorem tnF_len {V : List (Int × List Nat)} (h : ∀ p ∈ V, okF p.1 p.2.length = true) : ∀ p ∈ V.map tnF, p.2.length ≤ 8000 := by
  intro p hp
  obtain ⟨v, hv, rfl⟩ := List.mem_map.1 hp
  exact (of_decide_eq_true (h v hv)).2.2
theorem frsB_ge : ∀ P : List (Nat × List Nat), P.length ≤ (frsB P).length
  | [] => Nat.zero_le _
  | p :: r => by
    have h1 := frsB_ge r
    have h2 := frB_len p.1 p.2
    rw [frsB, List.length_append, List.length_cons]
    omega

theorem frsB_byte : ∀ {V : List (Int × List Nat)}, (∀ p ∈ V, okF p.1 p.2.length = true) → (∀ v ∈ V, ∀ x ∈ v.2, x < 2 ^ 8) → ∀ x ∈ frsB (V.map tnF), x < 2 ^ 8
  | [], _, _ => fun x hx => by simp [frsB] at hx
  | v :: V, h1, h2 => fun x hx => by
    rw [List.map_cons, frsB] at hx
    rcases List.mem_append.1 hx with hx | hx
    · have := of_decide_eq_true (h1 v (List.mem_cons_self ..))
      have hk : (tnF v).1 < 2 ^ 8 := by
        show v.1.toNat < 2 ^ 8
        omega
      exact frB_byte hk (h2 v (List.mem_cons_self ..)) (varV_byte _) x hx
    · exact frsB_byte (fun p hp => h1 p (List.mem_cons_of_mem _ hp)) (fun p hp => h2 p (List.mem_cons_of_mem _ hp)) x hx

/-- Frames are recovered. -/
theorem back_all {V : List (Int × List Nat)} {D : List Nat} (h : foF [] V = some D) : D.length ≤ 8000 ∧ frsN D = (D.length : Int) ∧ frsV D = V := by
  have hl := foF_len V [] D h (by simp)
  obtain ⟨h1, h2⟩ := foF_some V [] D h
  rw [List.nil_append] at h2
  have h2' : D = frsB (V.map tnF) := h2
  have hg := frsB_ge (V.map tnF)
  have hr := frsF_back (V.map tnF) [] (D.length + 1) (tnF_len h1) rfl (by rw [h2']; omega)
  rw [List.append_nil, ← h2'] at hr
  have hR : frsR D = (V.map tnF, D.length) := hr
  refine ⟨hl, ?_, ?_⟩
  · unfold frsN
    rw [if_pos hl, hR]
  · unfold frsV
    rw [if_pos hl, hR]
    exact tnF_back h1

/-- What a cut in the last frame leaves. -/
theorem back_cut {V : List (Int × List Nat)} {v : Int × List Nat} {D : List Nat} (h : foF [] (V ++ [v]) = some D) (hb : ∀ x ∈ v.2, x < 2 ^ 8) :
    (frV v.1 v.2).length ≤ D.length ∧ 7 ≤ (frV v.1 v.2).length ∧ ∀ c : Nat, c < (frV v.1 v.2).length → frsN (D.take (D.length - 1 - c)) = (D.length : Int) - ((frV v.1 v.2).length : Int) ∧ (frsV (D.take (D.length - 1 - c))).length = V.length := by
  have hl := foF_len (V ++ [v]) [] D h (by simp)
  obtain ⟨h1, h2⟩ := foF_some (V ++ [v]) [] D h
  have h2' : D = frsB (V.map tnF ++ [(v.1.toNat, v.2)]) := by
    rw [List.nil_append, List.map_append] at h2
    exact h2
  have hv := h1 v (by simp)
  have hv' := of_decide_eq_true hv
  have e1 : frV v.1 v.2 = frB v.1.toNat v.2 := by unfold frV; rw [if_pos hv]
  have hB : ∀ x ∈ frB v.1.toNat v.2, x < 2 ^ 8 := frB_byte (by omega) hb (varV_byte _)
  have hap : D.length = (frsB (V.map tnF)).length + (frB v.1.toNat v.2).length := by
    rw [h2', frsB_append, List.length_append]
    simp only [frsB, List.append_nil]
  have h7 : 7 ≤ (frB v.1.toNat v.2).length := by
    have hb := frP_back v.1.toNat v.2 [] hv'.2.2
    rw [List.append_nil] at hb
    exact (frP_some hB hb).2.2.2.2.1
  rw [e1]
  refine ⟨by omega, h7, fun c hc => ?_⟩
  have hg := frsB_ge (V.map tnF)
  have hlt : (D.take (D.length - 1 - c)).length = D.length - 1 - c := by rw [List.length_take]; omega
  have hcut := frames_cut (P := V.map tnF) (k := v.1.toNat) (L := v.2) (c := c) (f := (D.take (D.length - 1 - c)).length + 1) (tnF_len fun p hp => h1 p (by simp [hp])) hv'.2.2 hB hc (by rw [hlt]; omega)
  rw [← h2'] at hcut
  have hR : frsR (D.take (D.length - 1 - c)) = (V.map tnF, (frsB (V.map tnF)).length) := hcut
  refine ⟨?_, ?_⟩
  · unfold frsN
    rw [if_pos (by omega), hR]
    simp only
    omega
  · unfold frsV
    rw [if_pos (by omega), hR, List.length_map, List.length_map]

end Go.Proofs.YtlbnngolcoefdaaDoor
