/- A region that draws its order, whose operations only read, but whose callees may make memory: the library's one walk in the text's order, over the class of worlds in which what was there is untouched. Nothing of the program stands here. -/
import Derived.Test.YtnlpmcgpdaifoaaDoorLaws3
import Derived.BigQuiet
namespace Go.Proofs.YtnlpmcgpdaifoaaDoor
open Go.RowKit

/-- The worlds that have only grown since w0. -/
structure BW (w0 : World) where
  val : World
  ok : Below w0.heap.size w0 val
instance (w0 : World) : Nonempty (BW w0) := ⟨⟨w0, Below.refl _ _⟩⟩
theorem wp_region_bw {P : Program} {id : Nat} {Q : Exit → Act → World → Prop} {a : Act} {w : World} {l : List Oper} (hm : P.follows .mixedOrders = true) (hB : Region.lexB .any l.toArray = true) (w0 : World) (hw : Below w0.heap.size w0 w)
    (h : wpQuiet P l.toArray (fun w' => ∃ q : BW w0, w' = q.val) (fun a' => ∀ w', (∃ q : BW w0, w' = q.val) → Q .normal a' w') l a) : (Code.region id l.toArray true).wp P Q a w :=
  wp_region_quiet (C := fun w' => ∃ q : BW w0, w' = q.val) hm hB ⟨⟨_, hw.drew⟩, rfl⟩ (by simpa using h)
theorem Calls.bw {P : Program} {f : FuncId} {args : Array Value} {w0 w : World} {v : Value} (h : Calls P f args w fun e w' => e = .returned v ∧ Below w0.heap.size w0 w') : Calls P f args w fun e w'' => e = .returned v ∧ ∃ q : BW w0, w'' = q.val :=
  h.mono fun _ _ h => ⟨h.1, ⟨_, h.2⟩, rfl⟩

end Go.Proofs.YtnlpmcgpdaifoaaDoor
