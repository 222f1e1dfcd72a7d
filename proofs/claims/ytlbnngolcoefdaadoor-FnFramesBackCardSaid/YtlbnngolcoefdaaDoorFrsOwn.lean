/- A list of frames that a call has made: the frames in one block, each one's bytes in a block of its own. -/
import Derived.Test.YtlbnngolcoefdaaDoorFrs2
import Derived.Test.YtlbnngolcoefdaaDoorFrame1
namespace Go.Proofs.YtlbnngolcoefdaaDoor
open Go.RowKit
set_option maxRecDepth 100000

/-- A frame in memory: its kind, and the slice of its bytes with what they hold. -/
structure FrV where
  K : Int
  A : Option Addr
  c : Nat
  xs : List Value
abbrev FrV.body (p : FrV) : Value := .slice p.A p.xs.length p.c

/-- The first frames of block g are Q; all lies between lo and hi. -/
structure FrsIn (w : World) (lo hi g : Nat) (cs : Array Value) (Q : List FrV) : Prop where
  box : Box w g 49 cs
  low : lo ≤ g
  high : g < hi
  cells : ∀ (j : Nat) (p : FrV), Q[j]? = some p → cs[j * 2]? = some (.int .i64 p.K) ∧ cs[j * 2 + 1]? = some p.body
  own : ∀ (j : Nat) (p : FrV), Q[j]? = some p → w.ownsRow lo 5 1 p.body p.xs.length p.xs ∧ ∀ k, p.body.ownBlock = some k → k < hi
  apart : ∀ (i j : Nat) (p q : FrV) (k : Nat), i ≠ j → Q[i]? = some p → Q[j]? = some q → p.body.ownBlock = some k → q.body.ownBlock ≠ some k

/-- The block of owned bytes holds bytes. -/
theorem own_kind {w : World} {base n : Nat} {v : Value} {xs : List Value} (h : w.ownsRow base 5 1 v n xs) {k : Nat} (hk : v.ownBlock = some k) : base ≤ k ∧ ∃ cur, w.heap[k]? = some (.cells cur 5 (0, 0)) := by
  rcases h.2 with ⟨h2, _⟩ | ⟨g, cap, cur, hv, hg, hh, r⟩
  · rw [h2] at hk
    cases hk
  · rw [hv] at hk
    injection hk with hk
    subst hk
    exact ⟨hg, cur, hh⟩
theorem own_ne_box {w : World} {base n : Nat} {v : Value} {xs : List Value} {g : Nat} {cs : Array Value} (h : w.ownsRow base 5 1 v n xs) (hx : Box w g 49 cs) : v.ownBlock ≠ some g := by
  intro e
  obtain ⟨_, cur, hh⟩ := own_kind h e
  unfold Box at hx
  rw [hx] at hh
  injection hh with hh
  injection hh with _ e _
  cases e
theorem own_turn3 {w w' : World} {b : Nat} {e : TypeId} {size n : Nat} {v : Value} {xs : List Value} (h : w.ownsRow b e size v n xs) (hk : ∀ k, v.ownBlock = some k → w'.heap[k]? = w.heap[k]?) : w'.ownsRow b e size v n xs := by
  obtain ⟨h1, h2⟩ := h
  refine ⟨h1, ?_⟩
  rcases h2 with h2 | ⟨g, cap, cur, hv, hg, hh, r⟩
  · exact .inl h2
  · exact .inr ⟨g, cap, cur, hv, hg, (hk g (by rw [hv]; rfl)).trans hh, r⟩

section
variable {w w' : World} {lo hi g : Nat} {cs : Array Value} {Q : List FrV}
theorem FrsIn.turn (h : FrsIn w lo hi g cs Q) (hk : ∀ k, lo ≤ k → k < hi → w'.heap[k]? = w.heap[k]?) : FrsIn w' lo hi g cs Q :=
  ⟨(hk g h.low h.high).trans h.box, h.low, h.high, h.cells, fun j p hp => ⟨own_turn3 (h.own j p hp).1 fun k e => hk k (own_kind (h.own j p hp).1 e).1 ((h.own j p hp).2 k e), (h.own j p hp).2⟩, h.apart⟩
theorem FrsIn.below (h : FrsIn w lo hi g cs Q) {B : Nat} (hb : Below B w w') (hB : hi ≤ B) : FrsIn w' lo hi g cs Q := h.turn fun k _ h2 => hb.block k (Nat.lt_of_lt_of_le h2 hB)
/-- One frame more, its bytes new. -/
theorem FrsIn.snoc (h : FrsIn w lo hi g cs Q) {K : Int} {A : Option Addr} {c : Nat} {xs : List Value} (hb : Below w.heap.size w w') (hhi : hi ≤ w.heap.size) (ho : w'.ownsRow w.heap.size 5 1 (.slice A xs.length c) xs.length xs) (hsz : Q.length * 2 + 1 < cs.size) :
    FrsIn ((w'.setCell ⟨g, Q.length * 2, none⟩ (.int .i64 K)).setCell ⟨g, Q.length * 2 + 1, none⟩ (.slice A xs.length c)) lo w'.heap.size g ((cs.setIfInBounds (Q.length * 2) (.int .i64 K)).setIfInBounds (Q.length * 2 + 1) (.slice A xs.length c)) (Q ++ [⟨K, A, c, xs⟩]) := by
  have hx' : Box w' g 49 cs := h.box.below hb h.box.lt
  have hx2 := (hx'.put (Q.length * 2) (.int .i64 K))
  have hlow : lo ≤ w.heap.size := Nat.le_of_lt (Nat.lt_of_le_of_lt h.low h.box.lt)
  have ho' : w'.ownsRow lo 5 1 (.slice A xs.length c) xs.length xs := own_mono ho hlow
  have put : ∀ {v : Value} {n : Nat} {ys : List Value}, w'.ownsRow lo 5 1 v n ys → ((w'.setCell ⟨g, Q.length * 2, none⟩ (.int .i64 K)).setCell ⟨g, Q.length * 2 + 1, none⟩ (.slice A xs.length c)).ownsRow lo 5 1 v n ys := fun {v n ys} hv =>
    own_turn3 hv fun k e => by
      have hne : k ≠ g := fun e2 => own_ne_box hv hx' (by rw [e, e2])
      rw [Below.heap_setCell _ ⟨g, Q.length * 2 + 1, none⟩ _ k hne, Below.heap_setCell _ ⟨g, Q.length * 2, none⟩ _ k hne]
  have old : ∀ (j : Nat) (p : FrV), Q[j]? = some p → w'.ownsRow lo 5 1 p.body p.xs.length p.xs := fun j p hp => own_turn3 (h.own j p hp).1 fun k e => hb.block k (Nat.lt_of_lt_of_le ((h.own j p hp).2 k e) hhi)
  have split : ∀ (j : Nat) (p : FrV), (Q ++ [⟨K, A, c, xs⟩])[j]? = some p → (j < Q.length ∧ Q[j]? = some p) ∨ (j = Q.length ∧ p = ⟨K, A, c, xs⟩) := fun j p hp => by
    rcases Nat.lt_or_ge j Q.length with hj | hj
    · rw [List.getElem?_append_left hj] at hp
      exact .inl ⟨hj, hp⟩
    · rw [List.getElem?_append_right hj] at hp
      have hj0 : j - Q.length = 0 := by
        rcases Nat.eq_zero_or_pos (j - Q.length) with h0 | h0
        · exact h0
        · rw [List.getElem?_eq_none (by simp; omega)] at hp
          cases hp
      rw [hj0] at hp
      exact .inr ⟨by omega, (Option.some.inj hp).symm⟩
  refine ⟨hx2.put _ _, h.low, Nat.lt_of_lt_of_le h.high (Nat.le_trans hhi hb.size), ?_, ?_, ?_⟩
  · intro j p hp
    rcases split j p hp with ⟨hj, hp⟩ | ⟨rfl, rfl⟩
    · obtain ⟨c1, c2⟩ := h.cells j p hp
      rw [Array.getElem?_setIfInBounds_ne (by omega), Array.getElem?_setIfInBounds_ne (by omega), Array.getElem?_setIfInBounds_ne (by omega), Array.getElem?_setIfInBounds_ne (by omega)]
      exact ⟨c1, c2⟩
    · refine ⟨?_, ?_⟩
      · rw [Array.getElem?_setIfInBounds_ne (by omega), Array.getElem?_setIfInBounds_self_of_lt (by omega)]
      · rw [Array.getElem?_setIfInBounds_self_of_lt (by simp; omega)]
  · intro j p hp
    rcases split j p hp with ⟨hj, hp⟩ | ⟨rfl, rfl⟩
    · exact ⟨put (old j p hp), fun k e => Nat.lt_of_lt_of_le ((h.own j p hp).2 k e) (Nat.le_trans hhi hb.size)⟩
    · exact ⟨put ho', fun k e => (ho'.lt k e).2⟩
  · intro i j p q k hij hp hq e1 e2
    have hnew : ∀ (j : Nat) (p : FrV), Q[j]? = some p → ∀ k, p.body.ownBlock = some k → (Value.slice A xs.length c).ownBlock ≠ some k := fun j p hp k e e' => by
      have := (ho.lt k e').1
      have := (h.own j p hp).2 k e
      omega
    rcases split i p hp with ⟨hi1, hp⟩ | ⟨rfl, rfl⟩
    · rcases split j q hq with ⟨hj1, hq⟩ | ⟨rfl, rfl⟩
      · exact h.apart i j p q k hij hp hq e1 e2
      · exact hnew i p hp k e1 e2
    · rcases split j q hq with ⟨hj1, hq⟩ | ⟨rfl, rfl⟩
      · exact hnew j q hq k e2 e1
      · exact hij rfl
end

end Go.Proofs.YtlbnngolcoefdaaDoor
