import Derived.Test.YtlbnngolcoefdaaDoorFrs5
import Derived.Test.YtlbnngolcoefdaaDoorFrs7
/- Lists of frames of a call's own, handed to the functions. -/
namespace Go.Proofs.YtlbnngolcoefdaaDoor
open Go.RowKit
set_option maxRecDepth 100000

/-- Block g holds just the frames V. -/
def Frs (w : World) (lo hi g : Nat) (V : List (Int × List Nat)) : Prop := ∃ cs Q, FrsIn w lo hi g cs Q ∧ Q.map (fun q => (q.K, q.xs)) = V.map (fun v => (v.1, v.2.map B8))
theorem Frs.below {w w' : World} {lo hi g B : Nat} {V : List (Int × List Nat)} (h : Frs w lo hi g V) (hb : Below B w w') (hB : hi ≤ B) : Frs w' lo hi g V := by
  obtain ⟨cs, Q, h1, h2⟩ := h
  exact ⟨cs, Q, h1.below hb hB, h2⟩
theorem zip_len {Q : List FrV} {V : List (Int × List Nat)} (h : Q.map (fun q => (q.K, q.xs)) = V.map (fun v => (v.1, v.2.map B8))) : Q.length = V.length := by
  have := congrArg List.length h
  simpa using this
theorem zipF_len {Q : List FrV} {V : List (Int × List Nat)} (h : Q.map (fun q => (q.K, q.xs)) = V.map (fun v => (v.1, v.2.map B8))) : (zipF Q V).length = V.length := by
  unfold zipF
  rw [List.length_zipWith, zip_len h, Nat.min_self]
def totP : List (Int × List Nat) → Nat
  | [] => 0
  | v :: r => 1 + v.2.length + totP r
theorem totF_val : ∀ (P : List FrA), totF P = totP (P.map FrA.val)
  | [] => rfl
  | p :: r => by rw [List.map_cons, totF, totP, totF_val r]; rfl
theorem totV_val : ∀ {Q : List FrV} {V : List (Int × List Nat)}, Q.map (fun q => (q.K, q.xs)) = V.map (fun v => (v.1, v.2.map B8)) → totV Q = totP V
  | [], [], _ => rfl
  | [], _ :: _, h => by simp at h
  | _ :: _, [], h => by simp at h
  | q :: Q, v :: V, h => by
    simp only [List.map_cons, List.cons.injEq, Prod.mk.injEq] at h
    rw [totV, totP, totV_val h.2, h.1.2, List.length_map]

section
variable (lo hi g d : Nat) (V : List (Int × List Nat)) (w : World) (h : Frs w lo hi g V) (hb : ∀ v ∈ V, ∀ x ∈ v.2, x < 2 ^ 8) (hV : totP V ≤ 1048576)
include h hb in
theorem frs_lies : ∃ P, LiesF w (some ⟨g, 0, none⟩) P ∧ P.map FrA.val = V ∧ P.length = V.length := by
  obtain ⟨cs, Q, h1, h2⟩ := h
  exact ⟨zipF Q V, h1.lies h2 hb, zipF_val h2, zipF_len h2⟩
include h hb hV
theorem specFrs : Calls Tryd.prog 21 #[.slice (some ⟨g, 0, none⟩) V.length d] w (OfRes w (foF [] V)) := by
  obtain ⟨P, h1, h2, h3⟩ := frs_lies lo hi g V w h hb
  have hl := totF_le P
  rw [totF_val, h2] at hl
  have := specFramesOf_any (some ⟨g, 0, none⟩) d P w h1 (by omega)
  rwa [h2, h3] at this
theorem implFrs : Calls Tryd.prog 22 #[.slice (some ⟨g, 0, none⟩) V.length d] w (OfRes w (foF [] V)) := by
  obtain ⟨P, h1, h2, h3⟩ := frs_lies lo hi g V w h hb
  have hl := totF_le P
  rw [totF_val, h2] at hl
  have := implFramesOf_any (some ⟨g, 0, none⟩) d P w h1 (by omega)
  rwa [h2, h3] at this
theorem eqFrs (lo' hi' g' d' : Nat) (h' : Frs w lo' hi' g' V) : Calls Tryd.prog 43 #[.slice (some ⟨g, 0, none⟩) V.length d, .slice (some ⟨g', 0, none⟩) V.length d'] w fun e w' => e = .returned (.bool true) ∧ Below w.heap.size w w' := by
  obtain ⟨P, h1, h2, h3⟩ := frs_lies lo hi g V w h hb
  obtain ⟨P', h1', h2', h3'⟩ := frs_lies lo' hi' g' V w h' hb
  have ht : totF P ≤ 1048576 := by rw [totF_val, h2]; exact hV
  have := eqFrames_true (some ⟨g, 0, none⟩) (some ⟨g', 0, none⟩) d d' P P' w h1 h1' (by rw [h2, h2']) (Nat.le_trans (totF_le P) ht) (fun k p hp => Nat.le_trans (totF_mem hp) ht)
  rwa [h3, h3'] at this
omit hb in
theorem markFrs (hhi : hi ≤ w.heap.size) : Calls Tryd.prog 44 #[.slice (some ⟨g, 0, none⟩) V.length d, .int .i64 1] w fun e w' => (∃ r : Nat, e = .returned (.int .i64 r)) ∧ Inside lo hi w w' := by
  obtain ⟨cs, Q, h1, h2⟩ := h
  have := markFrames_any lo hi g d cs Q w h1 hhi (by rw [totV_val h2]; exact hV)
  rwa [zip_len h2] at this
end

/-- Bytes outside of what is changed stay. -/
theorem own_inside {lo hi base n : Nat} {w w' : World} {v : Value} {xs : List Value} (h : w.ownsRow base 5 1 v n xs) (hi' : Inside lo hi w w') (hout : ∀ k, v.ownBlock = some k → k < lo ∨ hi ≤ k) : w'.ownsRow base 5 1 v n xs :=
  own_turn3 h fun k e => hi'.block k (h.lt k e).2 (hout k e)
theorem own_apart8 {base n : Nat} {w w' : World} {v v' : Value} {xs : List Value} (h : w.ownsRow base 5 1 v n xs) (hg : w.grownBy w' v'.ownBlock) (hne : ∀ k, v.ownBlock = some k → v'.ownBlock ≠ some k) : w'.ownsRow base 5 1 v n xs :=
  own_turn3 h fun k e => hg.block k (h.lt k e).2 fun e2 => hne k e e2.symm

end Go.Proofs.YtlbnngolcoefdaaDoor

/- A list of frames that grows by append. -/
namespace Go.Proofs.YtlbnngolcoefdaaDoor
open Go.RowKit
set_option maxRecDepth 100000

/-- The cells of a list of frames. -/
def cellsF : List FrV → List Value
  | [] => []
  | q :: r => .int .i64 q.K :: q.body :: cellsF r
theorem cellsF_append (P Q : List FrV) : cellsF (P ++ Q) = cellsF P ++ cellsF Q := by
  induction P with
  | nil => rfl
  | cons p r ih => simp only [List.cons_append, cellsF, ih]
theorem cellsF_at : ∀ {Q : List FrV} {j : Nat} {p : FrV}, Q[j]? = some p → (cellsF Q)[j * 2]? = some (.int .i64 p.K) ∧ (cellsF Q)[j * 2 + 1]? = some p.body
  | [], _, _, h => by simp at h
  | q :: r, 0, p, h => by
    have : q = p := by simpa using h
    subst this
    exact ⟨rfl, rfl⟩
  | q :: r, j + 1, p, h => by
    have ih := cellsF_at (Q := r) (j := j) (p := p) (by simpa using h)
    rw [show (j + 1) * 2 = j * 2 + 1 + 1 by omega, show j * 2 + 1 + 1 + 1 = (j * 2 + 1) + 1 + 1 by omega, cellsF]
    simp only [List.getElem?_cons_succ]
    exact ih

/-- The list v of the call's own holds the frames Q, each with bytes of its own. -/
structure FrsL (w : World) (lo : Nat) (v : Value) (Q : List FrV) : Prop where
  row : w.ownsRow lo 49 2 v Q.length (cellsF Q)
  own : ∀ (j : Nat) (p : FrV), Q[j]? = some p → w.ownsRow lo 5 1 p.body p.xs.length p.xs
  apart : ∀ (i j : Nat) (p q : FrV) (k : Nat), i ≠ j → Q[i]? = some p → Q[j]? = some q → p.body.ownBlock = some k → q.body.ownBlock ≠ some k

theorem rowF_kind {w : World} {base n : Nat} {v : Value} {xs : List Value} (h : w.ownsRow base 49 2 v n xs) {k : Nat} (hk : v.ownBlock = some k) : base ≤ k ∧ k < w.heap.size ∧ ∃ cur, w.heap[k]? = some (.cells cur 49 (0, 0)) := by
  rcases h.2 with ⟨h2, _⟩ | ⟨g, cap, cur, hv, hg, hh, r⟩
  · rw [h2] at hk
    cases hk
  · rw [hv] at hk
    injection hk with hk
    subst hk
    refine ⟨hg, ?_, cur, hh⟩
    exact (Array.getElem?_eq_some_iff.1 hh).1
theorem rowF_ne {w : World} {base base' n m : Nat} {v u : Value} {xs ys : List Value} (h : w.ownsRow base 49 2 v n xs) (h' : w.ownsRow base' 5 1 u m ys) {k : Nat} (hk : u.ownBlock = some k) : v.ownBlock ≠ some k := by
  intro e
  obtain ⟨_, _, cur, hh⟩ := rowF_kind h e
  obtain ⟨_, cur', hh'⟩ := own_kind h' hk
  rw [hh] at hh'
  injection hh' with hh'
  injection hh' with _ e _
  cases e

section
variable {w w' : World} {lo : Nat} {v : Value} {Q : List FrV}
theorem FrsL.nil (w : World) (lo : Nat) : FrsL w lo (.slice none 0 0) [] := ⟨World.ownsRow_nil _ _ _ _, fun j p h => by simp at h, fun i j p q k _ h => by simp at h⟩
theorem FrsL.turn (h : FrsL w lo v Q) (hk : ∀ k, lo ≤ k → k < w.heap.size → w'.heap[k]? = w.heap[k]?) : FrsL w' lo v Q := by
  refine ⟨?_, fun j p hp => own_turn3 (h.own j p hp) fun k e => hk k (own_kind (h.own j p hp) e).1 ((h.own j p hp).lt k e).2, h.apart⟩
  exact own_turn3 h.row fun k e => hk k (rowF_kind h.row e).1 (rowF_kind h.row e).2.1
theorem FrsL.below (h : FrsL w lo v Q) {B : Nat} (hb : Below B w w') (hB : w.heap.size ≤ B) : FrsL w' lo v Q := h.turn fun k _ h2 => hb.block k (Nat.lt_of_lt_of_le h2 hB)
/-- One frame more. -/
theorem FrsL.add (h : FrsL w lo v Q) {K : Int} {A : Option Addr} {c base : Nat} {xs : List Value} {v' : Value} (ho : w.ownsRow base 5 1 (.slice A xs.length c) xs.length xs) (hbase : lo ≤ base) (hnew : ∀ (j : Nat) (p : FrV), Q[j]? = some p → ∀ k, p.body.ownBlock = some k → k < base)
    (hrow : w'.ownsRow lo 49 2 v' (Q.length + 1) (cellsF Q ++ [.int .i64 K, .slice A xs.length c])) (hg : w.grownBy w' v.ownBlock) : FrsL w' lo v' (Q ++ [⟨K, A, c, xs⟩]) := by
  have split : ∀ (j : Nat) (p : FrV), (Q ++ [⟨K, A, c, xs⟩])[j]? = some p → (j < Q.length ∧ Q[j]? = some p) ∨ (j = Q.length ∧ p = ⟨K, A, c, xs⟩) := fun j p hp => by
    rcases Nat.lt_or_ge j Q.length with hj | hj
    · rw [List.getElem?_append_left hj] at hp
      exact .inl ⟨hj, hp⟩
    · rw [List.getElem?_append_right hj] at hp
      have hj0 : j - Q.length = 0 := by
        rcases Nat.eq_zero_or_pos (j - Q.length) with h0 | h0
        · exact h0
        · rw [List.getElem?_eq_none (by simp; omega)] at hp
          cases hp
      rw [hj0] at hp
      exact .inr ⟨by omega, (Option.some.inj hp).symm⟩
  have keep : ∀ {u : Value} {n b : Nat} {ys : List Value}, w.ownsRow b 5 1 u n ys → w'.ownsRow b 5 1 u n ys := fun {u n b ys} hu =>
    own_turn3 hu fun k e => hg.block k (hu.lt k e).2 fun e2 => rowF_ne h.row hu e e2.symm
  refine ⟨?_, ?_, ?_⟩
  · rw [cellsF_append, List.length_append]
    exact hrow
  · intro j p hp
    rcases split j p hp with ⟨hj, hp⟩ | ⟨rfl, rfl⟩
    · exact keep (h.own j p hp)
    · exact keep (own_mono ho hbase)
  · intro i j p q k hij hp hq e1 e2
    have hne : ∀ (j : Nat) (p : FrV), Q[j]? = some p → ∀ k, p.body.ownBlock = some k → (Value.slice A xs.length c).ownBlock ≠ some k := fun j p hp k e e' => by
      have := (ho.lt k e').1
      have := hnew j p hp k e
      omega
    rcases split i p hp with ⟨hi1, hp1⟩ | ⟨rfl, rfl⟩
    · rcases split j q hq with ⟨hj1, hq1⟩ | ⟨rfl, rfl⟩
      · exact h.apart i j p q k hij hp1 hq1 e1 e2
      · exact hne i p hp1 k e1 e2
    · rcases split j q hq with ⟨hj1, hq1⟩ | ⟨rfl, rfl⟩
      · exact hne j q hq1 k e2 e1
      · exact hij rfl
/-- As frames in a block. -/
theorem FrsL.block (h : FrsL w lo v Q) (hQ : Q ≠ []) : ∃ g d cs, v = .slice (some ⟨g, 0, none⟩) Q.length d ∧ FrsIn w lo w.heap.size g cs Q := by
  rcases h.row.2 with ⟨_, h0⟩ | ⟨g, cap, cur, hv, hg, hh, h1, h2, h3, h4⟩
  · exact absurd (List.length_eq_zero_iff.1 h0) hQ
  · refine ⟨g, cap, cur, hv, ⟨hh, hg, (Array.getElem?_eq_some_iff.1 hh).1, ?_, fun j p hp => ⟨h.own j p hp, fun k e => ((h.own j p hp).lt k e).2⟩, h.apart⟩⟩
    intro j p hp
    have hj : j < Q.length := (List.getElem?_eq_some_iff.1 hp).1
    obtain ⟨c1, c2⟩ := cellsF_at hp
    rw [← h4, List.getElem?_take, if_pos (by omega)] at c1 c2
    exact ⟨by rw [← Array.getElem?_toList]; exact c1, by rw [← Array.getElem?_toList]; exact c2⟩
theorem FrsL.len (h : FrsL w lo v Q) : ∃ A d, v = .slice A Q.length d := own_slice h.row
end

end Go.Proofs.YtlbnngolcoefdaaDoor
