/- Lists of frames that a call returns, as the law of FramesRead uses them: bounded, compared, marked. -/
import Derived.Test.YtlbnngolcoefdaaDoorFrs8
import Derived.Test.YtlbnngolcoefdaaDoorFrsRdM
namespace Go.Proofs.YtlbnngolcoefdaaDoor
open Go.RowKit
set_option maxRecDepth 100000

/-- A list of frames of a call's own, all of it below hi. -/
structure FrsB (w : World) (lo hi : Nat) (v : Value) (Q : List FrV) : Prop where
  list : FrsL w lo v Q
  rowHi : ∀ k, v.ownBlock = some k → k < hi
  ownHi : ∀ (j : Nat) (p : FrV), Q[j]? = some p → ∀ k, p.body.ownBlock = some k → k < hi
theorem FrsL.bound {w : World} {lo : Nat} {v : Value} {Q : List FrV} (h : FrsL w lo v Q) : FrsB w lo w.heap.size v Q :=
  ⟨h, fun _ e => (rowF_kind h.row e).2.1, fun j p hp k e => ((h.own j p hp).lt k e).2⟩
section
variable {w w' : World} {lo hi : Nat} {v : Value} {Q : List FrV}
theorem FrsB.turn (h : FrsB w lo hi v Q) (hk : ∀ k, lo ≤ k → k < hi → w'.heap[k]? = w.heap[k]?) : FrsB w' lo hi v Q := by
  refine ⟨⟨?_, fun j p hp => own_turn3 (h.list.own j p hp) fun k e => hk k (own_kind (h.list.own j p hp) e).1 (h.ownHi j p hp k e), h.list.apart⟩, h.rowHi, h.ownHi⟩
  exact own_turn3 h.list.row fun k e => hk k (rowF_kind h.list.row e).1 (h.rowHi k e)
theorem FrsB.below (h : FrsB w lo hi v Q) {B : Nat} (hb : Below B w w') (hB : hi ≤ B) : FrsB w' lo hi v Q := h.turn fun k _ h2 => hb.block k (Nat.lt_of_lt_of_le h2 hB)
theorem FrsB.inside (h : FrsB w lo hi v Q) {lo' hi' : Nat} (hi2 : Inside lo' hi' w w') (hw : hi ≤ w.heap.size) (hout : hi ≤ lo' ∨ hi' ≤ lo) : FrsB w' lo hi v Q :=
  h.turn fun k h1 h2 => hi2.block k (Nat.lt_of_lt_of_le h2 hw) (by omega)
/-- The frames lie. -/
theorem FrsL.lies {V : List (Int × List Nat)} (h : FrsL w lo v Q) (hm : Q.map (fun q => (q.K, q.xs)) = V.map (fun v => (v.1, v.2.map B8))) (hb : ∀ v ∈ V, ∀ x ∈ v.2, x < 2 ^ 8) : ∃ A d P, v = .slice A P.length d ∧ LiesF w A P ∧ P.map FrA.val = V := by
  by_cases hQ : Q = []
  · subst hQ
    obtain ⟨A, d, rfl⟩ := h.len
    have hV : V = [] := by
      cases V with
      | nil => rfl
      | cons => simp at hm
    subst hV
    exact ⟨A, d, [], rfl, fun j p hp => by simp at hp, rfl⟩
  · obtain ⟨g, d, cs, rfl, hin⟩ := h.block hQ
    refine ⟨some ⟨g, 0, none⟩, d, zipF Q V, ?_, hin.lies hm hb, zipF_val hm⟩
    rw [zipF_len hm, zip_len hm]
end

theorem eqL {w : World} {lo lo' : Nat} {v v' : Value} {Q Q' : List FrV} {V : List (Int × List Nat)} (h : FrsL w lo v Q) (h' : FrsL w lo' v' Q') (hm : Q.map (fun q => (q.K, q.xs)) = V.map (fun v => (v.1, v.2.map B8))) (hm' : Q'.map (fun q => (q.K, q.xs)) = V.map (fun v => (v.1, v.2.map B8))) (hb : ∀ v ∈ V, ∀ x ∈ v.2, x < 2 ^ 8) (ht : totP V ≤ 1048576) :
    Calls Tryd.prog 43 #[v, v'] w fun e w' => e = .returned (.bool true) ∧ Below w.heap.size w w' := by
  obtain ⟨A, d, P, rfl, h1, h2⟩ := h.lies hm hb
  obtain ⟨A', d', P', rfl, h1', h2'⟩ := h'.lies hm' hb
  have htf : totF P ≤ 1048576 := by rw [totF_val, h2]; exact ht
  exact eqFrames_true A A' d d' P P' w h1 h1' (by rw [h2, h2']) (Nat.le_trans (totF_le P) htf) (fun k p hp => Nat.le_trans (totF_mem hp) htf)

/-- Frames that are marked. -/
def FrsMk (w : World) (lo hi : Nat) (v : Value) (Q : List FrV) : Prop := (Q = [] ∧ ∃ A d, v = .slice A 0 d) ∨ ∃ g d cs, v = .slice (some ⟨g, 0, none⟩) Q.length d ∧ FrsIn w lo hi g cs (mkF 1 Q)
theorem FrsMk.below {w w' : World} {lo hi B : Nat} {v : Value} {Q : List FrV} (h : FrsMk w lo hi v Q) (hb : Below B w w') (hB : hi ≤ B) : FrsMk w' lo hi v Q := by
  rcases h with h | ⟨g, d, cs, hv, hin⟩
  · exact .inl h
  · exact .inr ⟨g, d, cs, hv, hin.below hb hB⟩

set_option maxHeartbeats 400000 in
theorem markNil (A : Option Addr) (d : Nat) (w : World) : Calls Tryd.prog 44 #[.slice A 0 d, .int .i64 1] w fun e w' => e = .returned (.int .i64 1) ∧ w = w' := by
  go_enter Tryd.func44, Tryd.ntmps44
  go_wp2
  refine wp_loop_rounds 1 ?_
  rw [rounds_succ]
  go_wp2
  go_ret
  exact ⟨rfl, rfl⟩

theorem FrsIn.narrow {w : World} {lo hi hi' g : Nat} {cs : Array Value} {Q : List FrV} (h : FrsIn w lo hi g cs Q) (hg : g < hi') (ho : ∀ (j : Nat) (p : FrV), Q[j]? = some p → ∀ k, p.body.ownBlock = some k → k < hi') : FrsIn w lo hi' g cs Q :=
  ⟨h.box, h.low, hg, h.cells, fun j p hp => ⟨(h.own j p hp).1, ho j p hp⟩, h.apart⟩

theorem markL {w : World} {lo hi : Nat} {v : Value} {Q : List FrV} (h : FrsB w lo hi v Q) (hhi : hi ≤ w.heap.size) (ht : totV Q ≤ 1048576) :
    Calls Tryd.prog 44 #[v, .int .i64 1] w fun e w' => e = .returned (.int .i64 ((1 + totV Q : Nat) : Int)) ∧ FrsMk w' lo hi v Q ∧ Inside lo hi w w' := by
  by_cases hQ : Q = []
  · subst hQ
    obtain ⟨A, d, rfl⟩ := h.list.len
    refine (markNil A d w).mono ?_
    rintro e w' ⟨rfl, rfl⟩
    exact ⟨rfl, .inl ⟨rfl, A, d, rfl⟩, Inside.refl _ _ _⟩
  · obtain ⟨g, d, cs, rfl, hin⟩ := h.list.block hQ
    have hin' := hin.narrow (hi' := hi) (h.rowHi g rfl) h.ownHi
    refine (markFrames_strong lo hi g d cs Q w hin' hhi ht).mono ?_
    rintro e w' ⟨rfl, ⟨cs', h1⟩, h2⟩
    exact ⟨rfl, .inr ⟨g, d, cs', rfl, h1⟩, h2⟩

/-- The bytes of what is read are bytes. -/
theorem frsF_byte : ∀ (f : Nat) (C : List Nat), (∀ x ∈ C, x < 2 ^ 8) → ∀ p ∈ (frsF f C).1, ∀ x ∈ p.2, x < 2 ^ 8
  | 0, C, _, p, hp => by simp [frsF] at hp
  | f + 1, C, hC, p, hp => by
    rw [frsF] at hp
    cases h : frP C with
    | none => rw [h] at hp; simp at hp
    | some r =>
      obtain ⟨k, B, l⟩ := r
      rw [h] at hp
      obtain ⟨_, _, _, _, _, q6⟩ := frP_some hC h
      rcases List.mem_cons.1 hp with rfl | hp
      · exact q6
      · exact frsF_byte f (C.drop l) (fun x hx => hC x (List.mem_of_mem_drop hx)) p hp
theorem frsV_byte {D : List Nat} (hD : ∀ x ∈ D, x < 2 ^ 8) : ∀ v ∈ frsV D, ∀ x ∈ v.2, x < 2 ^ 8 := by
  unfold frsV
  split
  · intro v hv
    obtain ⟨p, hp, rfl⟩ := List.mem_map.1 hv
    exact frsF_byte _ D hD p hp
  · intro v hv
    simp at hv

end Go.Proofs.YtlbnngolcoefdaaDoor
