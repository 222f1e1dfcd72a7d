/- A scene's boxes of four cells. Nothing of the program stands here. -/
import Derived.Test.YtoehgcakfblblaaScene
import Derived.Deep.RegionWith
import Derived.Deep.RegionHeld3
namespace Go.Proofs.Ytoehgcakfblblaa
open Go.RowKit

theorem Scene.four {w0 w : World} {its : List Item} (h : Scene w0 w its) (i : Nat) {g : Nat} {t : TypeId} {a b c d : Value} (hi : its[i]? = some (.box g t #[a, b, c, d])) :
    w.cell? ⟨g, 0, none⟩ = some a ∧ w.cell? ⟨g, 1, none⟩ = some b ∧ w.cell? ⟨g, 2, none⟩ = some c ∧ w.cell? ⟨g, 3, none⟩ = some d ∧ g < w.heap.size := by
  have hx := h.getBox i hi
  exact ⟨hx.cell 0, hx.cell 1, hx.cell 2, hx.cell 3, hx.lt⟩

end Go.Proofs.Ytoehgcakfblblaa
