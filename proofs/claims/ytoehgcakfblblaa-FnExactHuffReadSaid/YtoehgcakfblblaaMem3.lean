import Derived.Test.YtoehgcakfblblaaLaws2
import Derived.Deep.RegionWith
import Derived.Deep.RegionHeld3
/- More words of my own: operations on words. Nothing of the program stands here. -/
namespace Go.Proofs.Ytoehgcakfblblaa
open Go.RowKit

theorem run_and_u64 {P : Program} (t : TypeId) (a b : Nat) (ha : a < 2 ^ 64) (hb : b < 2 ^ 64) (W : World) : (binOp .and t (.int .u64 (a : Int)) (.int .u64 (b : Int))).run P W = .ok (.int .u64 ((a &&& b : Nat) : Int)) W := by
  have h : a &&& b < 2 ^ 64 := Nat.and_lt_two_pow _ hb
  simp [binOp, Op.intBits]
  show IntKind.u64.wrap ((a % 2 ^ 64 &&& b % 2 ^ 64 : Nat) : Int) = _
  rw [Nat.mod_eq_of_lt ha, Nat.mod_eq_of_lt hb]
  exact IntWalk.u64_in _ (by omega)
theorem run_and1_u64 {P : Program} (t : TypeId) (a : Nat) (ha : a < 2 ^ 64) (W : World) : (binOp .and t (.int .u64 (a : Int)) (.int .u64 1)).run P W = .ok (.int .u64 ((a % 2 : Nat) : Int)) W := by
  have h := run_and_u64 (P := P) t a 1 ha (by decide) W
  rw [nat_mask1] at h
  exact h
theorem run_or_u64 {P : Program} (t : TypeId) (a b : Nat) (ha : a < 2 ^ 64) (hb : b < 2 ^ 64) (W : World) : (binOp .or t (.int .u64 (a : Int)) (.int .u64 (b : Int))).run P W = .ok (.int .u64 ((a ||| b : Nat) : Int)) W := by
  have h : a ||| b < 2 ^ 64 := Nat.or_lt_two_pow ha hb
  simp [binOp, Op.intBits]
  show IntKind.u64.wrap ((a % 2 ^ 64 ||| b % 2 ^ 64 : Nat) : Int) = _
  rw [Nat.mod_eq_of_lt ha, Nat.mod_eq_of_lt hb]
  exact IntWalk.u64_in _ (by omega)

end Go.Proofs.Ytoehgcakfblblaa

/- More words of my own: rows that lie apart. Nothing of the program stands here. -/
namespace Go.Proofs.Ytoehgcakfblblaa
open Go.RowKit

/-- A row that was there before another one was made lies apart from it. -/
theorem rows_apart {w w' : World} {b b' : Nat} {e e' : TypeId} {s s' n n' : Nat} {v v' : Value} {xs xs' : List Value} (h : w.ownsRow b e s v n xs) (h' : w'.ownsRow b' e' s' v' n' xs') (hb : w.heap.size ≤ b') :
    (v.ownBlock = none ∨ v.ownBlock ≠ v'.ownBlock) ∧ (v'.ownBlock = none ∨ v'.ownBlock ≠ v.ownBlock) := by
  have key : ∀ k, v.ownBlock = some k → v'.ownBlock ≠ some k := fun k hk hk' => by
    have h1 := (h.lt k hk).2
    have h2 := (h'.lt k hk').1
    omega
  constructor
  · cases hv : v.ownBlock with
    | none => exact .inl rfl
    | some k => exact .inr fun e => key k hv e.symm
  · cases hv : v'.ownBlock with
    | none => exact .inl rfl
    | some k => exact .inr fun e => key k e.symm hv

theorem grown_below {w w' : World} {base : Nat} {e : TypeId} {size n : Nat} {v : Value} {xs : List Value} {B : Nat} (h : w.ownsRow base e size v n xs) (hg : w.grownBy w' v.ownBlock) (hB : B ≤ base) (hs : B ≤ w.heap.size) : Below B w w' :=
  (Below.refl B w).grown hg hs fun k hk => Nat.le_trans hB (h.lt k hk).1

theorem box_grown {w w' : World} {base : Nat} {e : TypeId} {size n : Nat} {v : Value} {xs : List Value} {g : Nat} {t : TypeId} {cs : Array Value} (hx : Box w g t cs) (h : w.ownsRow base e size v n xs) (hg : w.grownBy w' v.ownBlock) (hlt : g < base) : Box w' g t cs :=
  hx.grown hg (own_apart h hlt)

/-- A block that was made later than a row is none of its. -/
theorem box_apart {w w' w1 : World} {base : Nat} {e : TypeId} {size n : Nat} {v : Value} {xs : List Value} {g : Nat} {t : TypeId} {cs : Array Value} (hx : Box w g t cs) (h0 : w1.ownsRow base e size v n xs) (hlt : w1.heap.size ≤ g) (hg : w.grownBy w' v.ownBlock) : Box w' g t cs :=
  hx.grown hg fun he => by have := (h0.lt g he).2; omega

end Go.Proofs.Ytoehgcakfblblaa
