/- A list of bit vectors that grows by append (after Frs8). -/
import Derived.Test.YtoehgcakfblblaaLv9
namespace Go.Proofs.Ytoehgcakfblblaa
open Go.RowKit
set_option maxRecDepth 100000

/-- The cells of a list of frames. -/
def cellsV : List LvV → List Value
  | [] => []
  | q :: r => .int .i64 q.K :: q.body :: cellsV r
theorem cellsV_append (P Q : List LvV) : cellsV (P ++ Q) = cellsV P ++ cellsV Q := by
  induction P with
  | nil => rfl
  | cons p r ih => simp only [List.cons_append, cellsV, ih]
theorem cellsV_at : ∀ {Q : List LvV} {j : Nat} {p : LvV}, Q[j]? = some p → (cellsV Q)[j * 2]? = some (.int .i64 p.K) ∧ (cellsV Q)[j * 2 + 1]? = some p.body
  | [], _, _, h => by simp at h
  | q :: r, 0, p, h => by
    have : q = p := by simpa using h
    subst this
    exact ⟨rfl, rfl⟩
  | q :: r, j + 1, p, h => by
    have ih := cellsV_at (Q := r) (j := j) (p := p) (by simpa using h)
    rw [show (j + 1) * 2 = j * 2 + 1 + 1 by omega, show j * 2 + 1 + 1 + 1 = (j * 2 + 1) + 1 + 1 by omega, cellsV]
    simp only [List.getElem?_cons_succ]
    exact ih

/-- The list v of the call's own holds the frames Q, each with bytes of its own. -/
structure LvL (w : World) (lo : Nat) (v : Value) (Q : List LvV) : Prop where
  row : w.ownsRow lo 44 2 v Q.length (cellsV Q)
  own : ∀ (j : Nat) (p : LvV), Q[j]? = some p → w.ownsRow lo 123 1 p.body p.xs.length p.xs
  apart : ∀ (i j : Nat) (p q : LvV) (k : Nat), i ≠ j → Q[i]? = some p → Q[j]? = some q → p.body.ownBlock = some k → q.body.ownBlock ≠ some k

theorem rowV_kind {w : World} {base n : Nat} {v : Value} {xs : List Value} (h : w.ownsRow base 44 2 v n xs) {k : Nat} (hk : v.ownBlock = some k) : base ≤ k ∧ k < w.heap.size ∧ ∃ cur, w.heap[k]? = some (.cells cur 44 (0, 0)) := by
  rcases h.2 with ⟨h2, _⟩ | ⟨g, cap, cur, hv, hg, hh, r⟩
  · rw [h2] at hk
    cases hk
  · rw [hv] at hk
    injection hk with hk
    subst hk
    refine ⟨hg, ?_, cur, hh⟩
    exact (Array.getElem?_eq_some_iff.1 hh).1
theorem rowV_ne {w : World} {base base' n m : Nat} {v u : Value} {xs ys : List Value} (h : w.ownsRow base 44 2 v n xs) (h' : w.ownsRow base' 123 1 u m ys) {k : Nat} (hk : u.ownBlock = some k) : v.ownBlock ≠ some k := by
  intro e
  obtain ⟨_, _, cur, hh⟩ := rowV_kind h e
  obtain ⟨_, cur', hh'⟩ := own_kindW h' hk
  rw [hh] at hh'
  injection hh' with hh'
  injection hh' with _ e _
  cases e

section
variable {w w' : World} {lo : Nat} {v : Value} {Q : List LvV}
theorem LvL.nil (w : World) (lo : Nat) : LvL w lo (.slice none 0 0) [] := ⟨World.ownsRow_nil _ _ _ _, fun j p h => by simp at h, fun i j p q k _ h => by simp at h⟩
theorem LvL.turn (h : LvL w lo v Q) (hk : ∀ k, lo ≤ k → k < w.heap.size → w'.heap[k]? = w.heap[k]?) : LvL w' lo v Q := by
  refine ⟨?_, fun j p hp => own_turn4 (h.own j p hp) fun k e => hk k (own_kindW (h.own j p hp) e).1 ((h.own j p hp).lt k e).2, h.apart⟩
  exact own_turn4 h.row fun k e => hk k (rowV_kind h.row e).1 (rowV_kind h.row e).2.1
theorem LvL.below (h : LvL w lo v Q) {B : Nat} (hb : Below B w w') (hB : w.heap.size ≤ B) : LvL w' lo v Q := h.turn fun k _ h2 => hb.block k (Nat.lt_of_lt_of_le h2 hB)
/-- One frame more. -/
theorem LvL.add (h : LvL w lo v Q) {K : Int} {A : Option Addr} {c base : Nat} {xs : List Value} {v' : Value} (ho : w.ownsRow base 123 1 (.slice A xs.length c) xs.length xs) (hbase : lo ≤ base) (hnew : ∀ (j : Nat) (p : LvV), Q[j]? = some p → ∀ k, p.body.ownBlock = some k → k < base)
    (hrow : w'.ownsRow lo 44 2 v' (Q.length + 1) (cellsV Q ++ [.int .i64 K, .slice A xs.length c])) (hg : w.grownBy w' v.ownBlock) : LvL w' lo v' (Q ++ [⟨K, A, c, xs⟩]) := by
  have split : ∀ (j : Nat) (p : LvV), (Q ++ [⟨K, A, c, xs⟩])[j]? = some p → (j < Q.length ∧ Q[j]? = some p) ∨ (j = Q.length ∧ p = ⟨K, A, c, xs⟩) := fun j p hp => by
    rcases Nat.lt_or_ge j Q.length with hj | hj
    · rw [List.getElem?_append_left hj] at hp
      exact .inl ⟨hj, hp⟩
    · rw [List.getElem?_append_right hj] at hp
      have hj0 : j - Q.length = 0 := by
        rcases Nat.eq_zero_or_pos (j - Q.length) with h0 | h0
        · exact h0
        · rw [List.getElem?_eq_none (by simp; omega)] at hp
          cases hp
      rw [hj0] at hp
      exact .inr ⟨by omega, (Option.some.inj hp).symm⟩
  have keep : ∀ {u : Value} {n b : Nat} {ys : List Value}, w.ownsRow b 123 1 u n ys → w'.ownsRow b 123 1 u n ys := fun {u n b ys} hu =>
    own_turn4 hu fun k e => hg.block k (hu.lt k e).2 fun e2 => rowV_ne h.row hu e e2.symm
  refine ⟨?_, ?_, ?_⟩
  · rw [cellsV_append, List.length_append]
    exact hrow
  · intro j p hp
    rcases split j p hp with ⟨hj, hp⟩ | ⟨rfl, rfl⟩
    · exact keep (h.own j p hp)
    · exact keep (own_mono ho hbase)
  · intro i j p q k hij hp hq e1 e2
    have hne : ∀ (j : Nat) (p : LvV), Q[j]? = some p → ∀ k, p.body.ownBlock = some k → (Value.slice A xs.length c).ownBlock ≠ some k := fun j p hp k e e' => by
      have := (ho.lt k e').1
      have := hnew j p hp k e
      omega
    rcases split i p hp with ⟨hi1, hp1⟩ | ⟨rfl, rfl⟩
    · rcases split j q hq with ⟨hj1, hq1⟩ | ⟨rfl, rfl⟩
      · exact h.apart i j p q k hij hp1 hq1 e1 e2
      · exact hne i p hp1 k e1 e2
    · rcases split j q hq with ⟨hj1, hq1⟩ | ⟨rfl, rfl⟩
      · exact hne j q hq1 k e2 e1
      · exact hij rfl
/-- As frames in a block. -/
theorem LvL.block (h : LvL w lo v Q) (hQ : Q ≠ []) : ∃ g d cs, v = .slice (some ⟨g, 0, none⟩) Q.length d ∧ LvIn w lo w.heap.size g cs Q := by
  rcases h.row.2 with ⟨_, h0⟩ | ⟨g, cap, cur, hv, hg, hh, h1, h2, h3, h4⟩
  · exact absurd (List.length_eq_zero_iff.1 h0) hQ
  · refine ⟨g, cap, cur, hv, ⟨hh, hg, (Array.getElem?_eq_some_iff.1 hh).1, ?_, fun j p hp => ⟨h.own j p hp, fun k e => ((h.own j p hp).lt k e).2⟩, h.apart⟩⟩
    intro j p hp
    have hj : j < Q.length := (List.getElem?_eq_some_iff.1 hp).1
    obtain ⟨c1, c2⟩ := cellsV_at hp
    rw [← h4, List.getElem?_take, if_pos (by omega)] at c1 c2
    exact ⟨by rw [← Array.getElem?_toList]; exact c1, by rw [← Array.getElem?_toList]; exact c2⟩
theorem LvL.len (h : LvL w lo v Q) : ∃ A d, v = .slice A Q.length d := own_slice h.row
end

end Go.Proofs.Ytoehgcakfblblaa
