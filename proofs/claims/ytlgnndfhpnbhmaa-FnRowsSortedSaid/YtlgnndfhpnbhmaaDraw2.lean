/- The specification's raw and wide draws. -/
import Derived.Test.YtlgnndfhpnbhmaaDraw1
namespace Go.Proofs.Ytlgnndfhpnbhmaa
open Go.RowKit
set_option maxRecDepth 100000

/-- Some number was drawn, by at most k picks. -/
def DrewI (w : World) (g : Nat) (A : Option Addr) (c : Nat) (D : List Nat) (K : Nat) (e : Ending) (w' : World) : Prop :=
  ∃ r : Int, e = .returned (.int .i64 r) ∧ (-9223372036854775808 ≤ r ∧ r ≤ 9223372036854775807) ∧ Cur w' g A c D K ∧ w.grownBy w' (some g)

/-- A table of numbers that was just made. -/
theorem table_at {w : World} {b : Nat} {t : TypeId} {L : List Int} (h : Box w b t (L.map I).toArray) {i : Nat} (hi : i < L.length) : ∃ v, v ∈ L ∧ w.cell? ⟨b, i, none⟩ = some (.int .i64 v) := by
  refine ⟨L[i], List.getElem_mem hi, ?_⟩
  rw [h.cell, List.getElem?_toArray, List.getElem?_map, List.getElem?_eq_getElem hi]
  rfl
theorem box_kept {w w' : World} {g b : Nat} {t : TypeId} {cs : Array Value} (h : Box w b t cs) (hg : w.grownBy w' (some g)) (hne : b ≠ g) : Box w' b t cs :=
  h.grown hg fun e => hne (Option.some.inj e).symm
theorem cur_alloc {w : World} {g : Nat} {A : Option Addr} {c : Nat} {D : List Nat} {K : Nat} (h : Cur w g A c D K) (o : Obj) : Cur (w.alloc o) g A c D K := h.below ((Below.refl _ _).alloc (Nat.le_refl _) o)

/-- A number below n was drawn, by at most three picks. -/
def DrewW (w : World) (g : Nat) (A : Option Addr) (c : Nat) (D : List Nat) (K n : Nat) (e : Ending) (w' : World) : Prop :=
  ∃ r : Nat, e = .returned (.int .i64 r) ∧ r < n ∧ r < 16777216 ∧ Cur w' g A c D K ∧ w.grownBy w' (some g)

end Go.Proofs.Ytlgnndfhpnbhmaa
