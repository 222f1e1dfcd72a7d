/- Lists of frames of a call's own, handed to the functions. -/
import Derived.Test.YtlbnngolcoefdaaDoorFrs5
namespace Go.Proofs.YtlbnngolcoefdaaDoor
open Go.RowKit
set_option maxRecDepth 100000

/-- Block g holds just the frames V. -/
def Frs (w : World) (lo hi g : Nat) (V : List (Int × List Nat)) : Prop := ∃ cs Q, FrsIn w lo hi g cs Q ∧ Q.map (fun q => (q.K, q.xs)) = V.map (fun v => (v.1, v.2.map B8))
theorem Frs.below {w w' : World} {lo hi g B : Nat} {V : List (Int × List Nat)} (h : Frs w lo hi g V) (hb : Below B w w') (hB : hi ≤ B) : Frs w' lo hi g V := by
  obtain ⟨cs, Q, h1, h2⟩ := h
  exact ⟨cs, Q, h1.below hb hB, h2⟩
theorem zip_len {Q : List FrV} {V : List (Int × List Nat)} (h : Q.map (fun q => (q.K, q.xs)) = V.map (fun v => (v.1, v.2.map B8))) : Q.length = V.length := by
  have := congrArg List.length h
  simpa using this
theorem zipF_len {Q : List FrV} {V : List (Int × List Nat)} (h : Q.map (fun q => (q.K, q.xs)) = V.map (fun v => (v.1, v.2.map B8))) : (zipF Q V).length = V.length := by
  unfold zipF
  rw [List.length_zipWith, zip_len h, Nat.min_self]
def totP : List (Int × List Nat) → Nat
  | [] => 0
  | v :: r => 1 + v.2.length + totP r
theorem totF_val : ∀ (P : List FrA), totF P = totP (P.map FrA.val)
  | [] => rfl
  | p :: r => by rw [List.map_cons, totF, totP, totF_val r]; rfl
theorem totV_val : ∀ {Q : List FrV} {V : List (Int × List Nat)}, Q.map (fun q => (q.K, q.xs)) = V.map (fun v => (v.1, v.2.map B8)) → totV Q = totP V
  | [], [], _ => rfl
  | [], _ :: _, h => by simp at h
  | _ :: _, [], h => by simp at h
  | q :: Q, v :: V, h => by
    simp only [List.map_cons, List.cons.injEq, Prod.mk.injEq] at h
    rw [totV, totP, totV_val h.2, h.1.2, List.length_map]

section
variable (lo hi g d : Nat) (V : List (Int × List Nat)) (w : World) (h : Frs w lo hi g V) (hb : ∀ v ∈ V, ∀ x ∈ v.2, x < 2 ^ 8) (hV : totP V ≤ 1048576)
include h hb in
theorem frs_lies : ∃ P, LiesF w (some ⟨g, 0, none⟩) P ∧ P.map FrA.val = V ∧ P.length = V.length := by
  obtain ⟨cs, Q, h1, h2⟩ := h
  exact ⟨zipF Q V, h1.lies h2 hb, zipF_val h2, zipF_len h2⟩
include h hb hV
theorem specFrs : Calls Tryd.prog 21 #[.slice (some ⟨g, 0, none⟩) V.length d] w (OfRes w (foF [] V)) := by
  obtain ⟨P, h1, h2, h3⟩ := frs_lies lo hi g V w h hb
  have hl := totF_le P
  rw [totF_val, h2] at hl
  have := specFramesOf_any (some ⟨g, 0, none⟩) d P w h1 (by omega)
  rwa [h2, h3] at this
theorem implFrs : Calls Tryd.prog 22 #[.slice (some ⟨g, 0, none⟩) V.length d] w (OfRes w (foF [] V)) := by
  obtain ⟨P, h1, h2, h3⟩ := frs_lies lo hi g V w h hb
  have hl := totF_le P
  rw [totF_val, h2] at hl
  have := implFramesOf_any (some ⟨g, 0, none⟩) d P w h1 (by omega)
  rwa [h2, h3] at this
theorem eqFrs (lo' hi' g' d' : Nat) (h' : Frs w lo' hi' g' V) : Calls Tryd.prog 43 #[.slice (some ⟨g, 0, none⟩) V.length d, .slice (some ⟨g', 0, none⟩) V.length d'] w fun e w' => e = .returned (.bool true) ∧ Below w.heap.size w w' := by
  obtain ⟨P, h1, h2, h3⟩ := frs_lies lo hi g V w h hb
  obtain ⟨P', h1', h2', h3'⟩ := frs_lies lo' hi' g' V w h' hb
  have ht : totF P ≤ 1048576 := by rw [totF_val, h2]; exact hV
  have := eqFrames_true (some ⟨g, 0, none⟩) (some ⟨g', 0, none⟩) d d' P P' w h1 h1' (by rw [h2, h2']) (Nat.le_trans (totF_le P) ht) (fun k p hp => Nat.le_trans (totF_mem hp) ht)
  rwa [h3, h3'] at this
omit hb in
theorem markFrs (hhi : hi ≤ w.heap.size) : Calls Tryd.prog 44 #[.slice (some ⟨g, 0, none⟩) V.length d, .int .i64 1] w fun e w' => (∃ r : Nat, e = .returned (.int .i64 r)) ∧ Inside lo hi w w' := by
  obtain ⟨cs, Q, h1, h2⟩ := h
  have := markFrames_any lo hi g d cs Q w h1 hhi (by rw [totV_val h2]; exact hV)
  rwa [zip_len h2] at this
end

/-- Bytes outside of what is changed stay. -/
theorem own_inside {lo hi base n : Nat} {w w' : World} {v : Value} {xs : List Value} (h : w.ownsRow base 5 1 v n xs) (hi' : Inside lo hi w w') (hout : ∀ k, v.ownBlock = some k → k < lo ∨ hi ≤ k) : w'.ownsRow base 5 1 v n xs :=
  own_turn3 h fun k e => hi'.block k (h.lt k e).2 (hout k e)
theorem own_apart8 {base n : Nat} {w w' : World} {v v' : Value} {xs : List Value} (h : w.ownsRow base 5 1 v n xs) (hg : w.grownBy w' v'.ownBlock) (hne : ∀ k, v.ownBlock = some k → v'.ownBlock ≠ some k) : w'.ownsRow base 5 1 v n xs :=
  own_turn3 h fun k e => hg.block k (h.lt k e).2 fun e2 => hne k e e2.symm

end Go.Proofs.YtlbnngolcoefdaaDoor
