/- Three rows of numbers that grow side by side. Nothing of the program stands here. -/
import Derived.Test.YtoehgcakfblblaaDoorWvApp
import Derived.Test.YtoehgcakfblblaaDoorWvMath2
namespace Go.Proofs.YtoehgcakfblblaaDoor
open Go.RowKit

structure Tri (ti : TypeId) (w0 w : World) (a : Value) (na : Nat) (A : List Int) (b : Value) (nb : Nat) (B : List Int) (c : Value) (nc : Nat) (C : List Int) : Prop where
  below : Below w0.heap.size w0 w
  ra : w.ownsRow w0.heap.size ti 1 a na (A.map I)
  rb : w.ownsRow w0.heap.size ti 1 b nb (B.map I)
  rc : w.ownsRow w0.heap.size ti 1 c nc (C.map I)
  ab : ∀ k, a.ownBlock = some k → b.ownBlock ≠ some k
  bc : ∀ k, b.ownBlock = some k → c.ownBlock ≠ some k
  ca : ∀ k, c.ownBlock = some k → a.ownBlock ≠ some k
section
variable {ti : TypeId} {w0 w w' : World} {a b c a' : Value} {na nb nc : Nat} {A B C : List Int}
theorem Tri.rot (h : Tri ti w0 w a na A b nb B c nc C) : Tri ti w0 w b nb B c nc C a na A := ⟨h.below, h.rb, h.rc, h.ra, h.bc, h.ca, h.ab⟩
theorem Tri.more (h : Tri ti w0 w a na A b nb B c nc C) (hb : Below w.heap.size w w') : Tri ti w0 w' a na A b nb B c nc C :=
  ⟨below_then h.below hb, own_below h.ra hb (Nat.le_refl _), own_below h.rb hb (Nat.le_refl _), own_below h.rc hb (Nat.le_refl _), h.ab, h.bc, h.ca⟩
theorem Tri.push (h : Tri ti w0 w a na A b nb B c nc C) {x : Int} (ho : w'.ownsRow w0.heap.size ti 1 a' (na + 1) (A.map I ++ [I x])) (hg : w.grownBy w' a.ownBlock) (hm : Moved w a a') : Tri ti w0 w' a' (na + 1) (A ++ [x]) b nb B c nc C := by
  have keep : ∀ {v : Value} {n : Nat} {X : List Int}, w.ownsRow w0.heap.size ti 1 v n (X.map I) → (∀ k, a.ownBlock = some k → v.ownBlock ≠ some k) → w'.ownsRow w0.heap.size ti 1 v n (X.map I) := fun {v n X} hv hne =>
    own_turn4 hv fun k hk => hg.block k (own_typed hv hk).2.1 fun e => hne k e.symm hk
  have ac : ∀ k, a.ownBlock = some k → c.ownBlock ≠ some k := fun k h1 h2 => h.ca k h2 h1
  refine ⟨h.below.trans (grown_below h.ra hg (Nat.le_refl _) h.below.size), by rw [List.map_append]; exact ho, keep h.rb h.ab, keep h.rc ac, ?_, h.bc, ?_⟩
  · intro k hk hkb
    rcases hm with hm | ⟨k', hm, hk'⟩
    · exact h.ab k (hm ▸ hk) hkb
    · rw [hm] at hk
      have e := Option.some.inj hk
      have := (own_typed h.rb hkb).2.1
      omega
  · intro k hkc hk
    rcases hm with hm | ⟨k', hm, hk'⟩
    · exact h.ca k hkc (hm ▸ hk)
    · rw [hm] at hk
      have e := Option.some.inj hk
      have := (own_typed h.rc hkc).2.1
      omega
theorem Tri.nil (w0 : World) (hb : Below w0.heap.size w0 w) : Tri ti w0 w (.slice none 0 0) 0 [] (.slice none 0 0) 0 [] (.slice none 0 0) 0 [] :=
  ⟨hb, World.ownsRow_nil _ _ _ _, World.ownsRow_nil _ _ _ _, World.ownsRow_nil _ _ _ _, (fun _ h => by cases h), (fun _ h => by cases h), (fun _ h => by cases h)⟩
end

/-- One number more, sorted by its bit. -/
theorem low_yes {m : Nat} {X : List Int} {i : Nat} {x : Int} (h : X[i]? = some x) (hb : wb m x = 0) : wlow m (X.take (i + 1)) = wlow m (X.take i) ++ [x] ∧ whigh m (X.take (i + 1)) = whigh m (X.take i) := by
  unfold wlow whigh
  rw [List.take_add_one, h, Option.toList_some, List.filter_append, List.filter_append]
  constructor
  · rw [List.filter_cons_of_pos (by simpa using hb), List.filter_nil]
  · rw [List.filter_cons_of_neg (by simpa using hb), List.filter_nil, List.append_nil]
theorem low_no {m : Nat} {X : List Int} {i : Nat} {x : Int} (h : X[i]? = some x) (hb : wb m x ≠ 0) : wlow m (X.take (i + 1)) = wlow m (X.take i) ∧ whigh m (X.take (i + 1)) = whigh m (X.take i) ++ [x] := by
  unfold wlow whigh
  rw [List.take_add_one, h, Option.toList_some, List.filter_append, List.filter_append]
  constructor
  · rw [List.filter_cons_of_neg (by simpa using hb), List.filter_nil, List.append_nil]
  · rw [List.filter_cons_of_pos (by simpa using hb), List.filter_nil]
theorem wbits_more {m : Nat} {X : List Int} {i : Nat} {x : Int} (h : X[i]? = some x) : (X.take (i + 1)).map (wb m) = (X.take i).map (wb m) ++ [wb m x] := by
  rw [List.take_add_one, h, List.map_append]
  rfl

end Go.Proofs.YtoehgcakfblblaaDoor
