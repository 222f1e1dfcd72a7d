import Derived.Test.YtoehgcakfblblaaDoorDraw3
import Derived.Deep.WholeRow
import Derived.Laws.CopyOwn
import Derived.BigQuiet
/- Values of many cells, made and stored whole: an alloc, a build. Nothing of the program stands here. -/
namespace Go.Proofs.YtoehgcakfblblaaDoor
open Go.RowKit

section
variable {P : Program} {ops : Array Oper} {rest : List Oper} {o : Oper} {a : Act} {w : World} {Q : Exit → Act → World → Prop}
theorem wpList_alloc_agg (hgd : o.guard = none) (ty : TypeId) (zs : Array Value) (ho : o.op = .alloc ty) (hz : ∀ W, (zeroValue ty).run P W = .ok (.agg zs) W)
    (h : wpList P ops Q rest (a.put o.dst (.pointer (some ⟨w.heap.size, 0, none⟩))) (w.alloc (.cells zs ty))) : wpList P ops Q (o :: rest) a w := by
  refine wpList_plain hgd fun _ hK => ?_
  unfold Oper.wp execOp
  simp only [ho, Instr.alloc, Sem.run_bind, Sem.run_pure, Result.andThen_ok, hz, newVar, newRow, newObj, Value.cells]
  exact hK _ _ h
theorem wpList_build_none (hgd : o.guard = none) (ty : TypeId) (ho : o.op = .build ty #[]) (cs : Array Value) (hb : ∀ W, (Instr.build ty #[]).run P W = .ok (.agg cs) W)
    (h : wpList P ops Q rest (a.put o.dst (.agg cs)) w) : wpList P ops Q (o :: rest) a w := by
  refine wpList_plain hgd fun _ hK => ?_
  unfold Oper.wp execOp
  simp only [ho, Array.map_empty, List.map_toArray, List.map_nil, Sem.run_bind, Sem.run_pure, Result.andThen_ok, hb]
  exact hK _ _ h
theorem wpList_build_one (hgd : o.guard = none) (ty : TypeId) (i : Nat) (x : Operand) (ho : o.op = .build ty #[(i, x)]) (v : Value) (hx : a.eval x = v) (cs : Array Value) (hb : ∀ W, (Instr.build ty #[(i, v)]).run P W = .ok (.agg cs) W)
    (h : wpList P ops Q rest (a.put o.dst (.agg cs)) w) : wpList P ops Q (o :: rest) a w := by
  refine wpList_plain hgd fun _ hK => ?_
  unfold Oper.wp execOp
  subst hx
  simp only [ho, List.map_toArray, List.map_cons, List.map_nil, Sem.run_bind, Sem.run_pure, Result.andThen_ok, hb]
  exact hK _ _ h
end

section
variable {w w' : World} {g : Nat} {t : TypeId} {cs cs' : Array Value}
theorem Box.row (h : Box w g t cs) (cs' : Array Value) : Box (w.setRow g cs') g t cs' := setRow_heap w g cs cs' t (0, 0) h
theorem Box.offRow (h : Box w g t cs) {g' : Nat} (hne : g ≠ g') (cs' : Array Value) : Box (w.setRow g' cs') g t cs := (setRow_other w g' g cs' hne).trans h
end

end Go.Proofs.YtoehgcakfblblaaDoor

/- A region that draws its order, whose operations only read, but whose callees may make memory: the library's one walk in the text's order, over the class of worlds in which what was there is untouched. Nothing of the program stands here. -/
namespace Go.Proofs.YtoehgcakfblblaaDoor
open Go.RowKit

/-- The worlds that have only grown since w0. -/
structure BW (w0 : World) where
  val : World
  ok : Below w0.heap.size w0 val
instance (w0 : World) : Nonempty (BW w0) := ⟨⟨w0, Below.refl _ _⟩⟩
theorem wp_region_bw {P : Program} {id : Nat} {Q : Exit → Act → World → Prop} {a : Act} {w : World} {l : List Oper} (hm : P.follows .mixedOrders = true) (hB : Region.lexB .any l.toArray = true) (w0 : World) (hw : Below w0.heap.size w0 w)
    (h : wpQuiet P l.toArray (fun w' => ∃ q : BW w0, w' = q.val) (fun a' => ∀ w', (∃ q : BW w0, w' = q.val) → Q .normal a' w') l a) : (Code.region id l.toArray true).wp P Q a w :=
  wp_region_quiet (C := fun w' => ∃ q : BW w0, w' = q.val) hm hB ⟨⟨_, hw.drew⟩, rfl⟩ (by simpa using h)
theorem Calls.bw {P : Program} {f : FuncId} {args : Array Value} {w0 w : World} {v : Value} (h : Calls P f args w fun e w' => e = .returned v ∧ Below w0.heap.size w0 w') : Calls P f args w fun e w'' => e = .returned v ∧ ∃ q : BW w0, w'' = q.val :=
  h.mono fun _ _ h => ⟨h.1, ⟨_, h.2⟩, rfl⟩

end Go.Proofs.YtoehgcakfblblaaDoor
