/- Waves of a call's own, handed to the laws' helpers. -/
import Derived.Test.YtoehgcakfblblaaDoorWvLaw1
namespace Go.Proofs.YtoehgcakfblblaaDoor
open Go.RowKit
set_option maxRecDepth 100000

/-- How many numbers and words levels have. -/
def totV2 : List (Int × List Nat) → Nat
  | [] => 0
  | v :: r => 1 + v.2.length + totV2 r
theorem totL_val : ∀ (P : List LvA), totL P = totV2 (P.map LvA.val)
  | [] => rfl
  | p :: r => by rw [List.map_cons, totL, totV2, totL_val r]
theorem totW_val : ∀ {Q : List LvV} {V : List (Int × List Nat)}, Q.map (fun q => (q.K, q.xs)) = V.map (fun v => (v.1, v.2.map U)) → totW Q = totV2 V
  | [], [], _ => rfl
  | [], _ :: _, h => by simp at h
  | _ :: _, [], h => by simp at h
  | q :: Q, v :: V, h => by
    simp only [List.map_cons, List.cons.injEq, Prod.mk.injEq] at h
    rw [totW, totV2, totW_val h.2, h.1.2, List.length_map]
theorem totV2_le : ∀ (V : List (Int × List Nat)), V.length ≤ totV2 V
  | [] => Nat.le_refl _
  | v :: r => by
    have := totV2_le r
    simp only [List.length_cons, totV2]
    omega
theorem totV2_mem : ∀ {V : List (Int × List Nat)} {v : Int × List Nat}, v ∈ V → v.2.length ≤ totV2 V
  | [], v, h => by simp at h
  | u :: r, v, h => by
    rcases List.mem_cons.1 h with rfl | h
    · simp only [totV2]; omega
    · have := totV2_mem h
      simp only [totV2]
      omega

theorem wvNum_of {w : World} {LA : Option Addr} {Z : List Int} {P : List LvA} (hr : ∀ z ∈ Z, -9223372036854775808 ≤ z ∧ z ≤ 9223372036854775807) (hL : LiesLw w LA P) (ht : Z.length + totL P ≤ 1048576) : WvNum Z (P.map LvA.val) := by
  have h1 := totL_le P
  refine ⟨hr, ?_, by omega, by rw [List.length_map]; omega⟩
  intro v hv
  obtain ⟨p, hp, rfl⟩ := List.mem_map.1 hv
  obtain ⟨j, hj⟩ := List.mem_iff_getElem?.1 hp
  exact (hL j p hj).2.2.2

/-- Rows outside of what is changed stay. -/
theorem own_outW {lo hi base n size : Nat} {e : TypeId} {w w' : World} {v : Value} {xs : List Value} (h : w.ownsRow base e size v n xs) (hi' : InsideW lo hi w w') (hout : ∀ k, v.ownBlock = some k → k < lo ∨ hi ≤ k) : w'.ownsRow base e size v n xs :=
  own_turn4 h fun k e => hi'.block k (own_typed h e).2.1 (hout k e)

end Go.Proofs.YtoehgcakfblblaaDoor
