/- A scene in which one row grows: what is newer is forgotten, what is older stays. -/
import Derived.Test.YtoehgcakfblblaaAppend2
namespace Go.Proofs.Ytoehgcakfblblaa
open Go.RowKit

theorem Items.low {S : Nat} {w : World} : ∀ {hi : Nat} {its : List Item}, Items S w hi its → S ≤ hi
  | _, [], h => h
  | _, _ :: _, ⟨_, h1, _, h3⟩ => Nat.le_trans (Items.low h3) h1

theorem Items.split {S : Nat} {w : World} : ∀ {hi : Nat} {its : List Item} (_ : Items S w hi its) (i : Nat) (it : Item), its[i]? = some it → ∃ lo hi', it.ok w lo hi' ∧ lo ≤ hi ∧ Items S w lo (its.drop (i + 1))
  | hi, it :: rest, ⟨lo, h1, h2, h3⟩, 0, it', h => by
    obtain rfl : it = it' := by simpa using h
    exact ⟨lo, hi, h2, h1, h3⟩
  | hi, it :: rest, ⟨lo, h1, h2, h3⟩, i + 1, it', h => by
    obtain ⟨lo', hi', a, b, c⟩ := Items.split h3 i it' (by simpa using h)
    exact ⟨lo', hi', a, Nat.le_trans b h1, c⟩

section
variable {w0 w w' : World} {its : List Item}
theorem Scene.pick (h : Scene w0 w its) (i : Nat) {e : TypeId} {v : Value} {n : Nat} {xs : List Value} (hi : its[i]? = some (.row e v n xs)) :
    ∃ lo, lo ≤ w.heap.size ∧ w.ownsRow lo e 1 v n xs ∧ Items w0.heap.size w lo (its.drop (i + 1)) := by
  obtain ⟨lo, hi', a, b, c⟩ := h.items.split i _ hi
  exact ⟨lo, b, a.1, c⟩
theorem Scene.grow (hb : Below w0.heap.size w0 w) {lo : Nat} (hit : Items w0.heap.size w lo its) (hle : lo ≤ w.heap.size) {e : TypeId} {v : Value} {n : Nat} {xs : List Value} (hown : w.ownsRow lo e 1 v n xs) (hg : w.grownBy w' v.ownBlock)
    {v' : Value} {n' : Nat} {zs : List Value} (ho : w'.ownsRow lo e 1 v' n' zs) : Scene w0 w' (.row e v' n' zs :: its) := by
  have hS := hit.low
  refine ⟨hb.trans (grown_below hown hg hS hb.size), lo, Nat.le_trans hle hg.size, ⟨ho, fun k hk => (ho.lt k hk).2⟩, hit.turn fun k _ hk => hg.block k (by omega) fun he => ?_⟩
  have := (hown.lt k he.symm).1
  omega
end

end Go.Proofs.Ytoehgcakfblblaa
