/- The draw of Select's arguments: what is held. -/
import Derived.Test.YtanllfidbhjboaaDoorDraw7d
import Derived.Test.YtanllfidbhjboaaDoorDraw3d
import Derived.Test.YtanllfidbhjboaaDoorDraw9d
import Derived.Test.YtanllfidbhjboaaDoorRank4d
import Derived.Deep.RegionHeld3
namespace Go.Proofs.YtanllfidbhjboaaDoor
open Go.RowKit
set_option maxRecDepth 100000

/-- A bit vector, a bit and a number that Select is tried at. -/
def DrewS (w : World) (e : Ending) (w' : World) : Prop :=
  ∃ (N : Int) (A1 : Option Addr) (c1 : Nat) (L : List Nat) (b k : Int), e = .returned (.tuple #[.agg #[.int .i64 N, .slice A1 L.length c1], .int .i64 b, .int .i64 k]) ∧ Lies w' U A1 L ∧ (∀ x ∈ L, x < 2 ^ 64) ∧ L.length ≤ 80 ∧ L.length ≤ c1 ∧ c1 ≤ 9223372036854775807 ∧ (-9223372036854775808 ≤ N ∧ N ≤ 9223372036854775807) ∧ (-9223372036854775808 ≤ b ∧ b ≤ 9223372036854775807) ∧ (-9223372036854775808 ≤ k ∧ k ≤ 9223372036854775807) ∧ Below w.heap.size w w'

theorem drewS_end {w w1 w2 w3 : World} {g s : Nat} {N b k : Int} {A1 : Option Addr} {c1 : Nat} {L : List Nat} (hs : w.heap.size = s) (hb : Below s w w1) (hgs : s < g) (hgl : g < w1.heap.size)
    (ho1 : w2.ownsRow w1.heap.size 64 1 (.slice A1 L.length c1) L.length (L.map U)) (hg2 : w1.grownBy w2 (some g)) (hg3 : w2.grownBy w3 (some g))
    (hL : ∀ x ∈ L, x < 2 ^ 64) (hL8 : L.length ≤ 80) (hN : -9223372036854775808 ≤ N ∧ N ≤ 9223372036854775807) (hB : -9223372036854775808 ≤ b ∧ b ≤ 9223372036854775807) (hK : -9223372036854775808 ≤ k ∧ k ≤ 9223372036854775807) (v0 v1 : Value) :
    DrewS w (.returned (.tuple #[.agg #[.int .i64 N, .slice A1 L.length c1], .int .i64 b, .int .i64 k])) ((w3.setCell ⟨s, 0, none⟩ v0).setCell ⟨s, 1, none⟩ v1) := by
  have e1 : w3.grownBy ((w3.setCell ⟨s, 0, none⟩ v0).setCell ⟨s, 1, none⟩ v1) (some s) := (grownBy_setCell _ _ _ _).trans (grownBy_setCell _ _ _ _)
  have s1 := hg2.size
  have s2 := hg3.size
  have s3 := e1.size
  obtain ⟨k1, k2⟩ := own_cap ho1
  refine ⟨N, A1, c1, L, b, k, rfl, ?_, hL, hL8, k1, k2, hN, hB, hK, ?_⟩
  · exact Lies.of_own (own_past6 (own_past6 ho1 hg3 (by omega)) e1 (by omega))
  · subst hs
    have hz := hb.size
    refine ((hb.grown hg2 ?_ ?_).grown hg3 ?_ ?_).grown e1 ?_ ?_
    all_goals first | omega | (intro j hj; have := Option.some.inj hj; omega)

theorem cell_off2 {W : World} {b o s : Nat} {x : Option Value} (h : W.cell? ⟨b, o, none⟩ = x) (hne : b ≠ s) (v0 v1 : Value) : ((W.setCell ⟨s, 0, none⟩ v0).setCell ⟨s, 1, none⟩ v1).cell? ⟨b, o, none⟩ = x :=
  (World.cell?_of_block (a := ⟨b, o, none⟩) ((Below.heap_setCell _ ⟨s, 1, none⟩ v1 b hne).trans (Below.heap_setCell _ ⟨s, 0, none⟩ v0 b hne))).trans h

/-- A table that is made now, or behind two stores. -/
theorem table_put {L : List Int} (W : World) (s : Nat) (t : TypeId) {i : Nat} (hi : i < L.length) : ∃ v, v ∈ L ∧ (L.map I).toArray[i]? = some (.int .i64 v) ∧ (L.map I)[i]? = some (.int .i64 v) ∧ (W.alloc (.cells (L.map I).toArray t)).cell? ⟨W.heap.size, i, none⟩ = some (.int .i64 v) ∧
    ∀ v0 v1, (((W.setCell ⟨s, 0, none⟩ v0).setCell ⟨s, 1, none⟩ v1).alloc (.cells (L.map I).toArray t)).cell? ⟨W.heap.size, i, none⟩ = some (.int .i64 v) := by
  refine ⟨L[i], List.getElem_mem hi, ?_, ?_, ?_, fun v0 v1 => ?_⟩
  · rw [List.getElem?_toArray, List.getElem?_map, List.getElem?_eq_getElem hi]
    rfl
  · rw [List.getElem?_map, List.getElem?_eq_getElem hi]
    rfl
  · rw [(Box.made W t (L.map I).toArray).cell, List.getElem?_toArray, List.getElem?_map, List.getElem?_eq_getElem hi]
    rfl
  · have h := Box.made ((W.setCell ⟨s, 0, none⟩ v0).setCell ⟨s, 1, none⟩ v1) t (L.map I).toArray
    rw [show ((W.setCell ⟨s, 0, none⟩ v0).setCell ⟨s, 1, none⟩ v1).heap.size = W.heap.size by simp] at h
    rw [h.cell, List.getElem?_toArray, List.getElem?_map, List.getElem?_eq_getElem hi]
    rfl
theorem drewS_alloc {w w' : World} {e : Ending} (h : DrewS w e w') (o : Obj) : DrewS w e (w'.alloc o) := by
  obtain ⟨N, A1, c1, L, b, k, he, hl, h1, h2, h3, h4, h5, h6, h7, h8⟩ := h
  exact ⟨N, A1, c1, L, b, k, he, hl.below ((Below.refl _ _).alloc (Nat.le_refl _) o), h1, h2, h3, h4, h5, h6, h7, h8.alloc h8.size o⟩

/-- What is held while the numbers are drawn: the cursor, the box of the bit vector, the result's box. -/
structure SelInv (w2 : World) (g : Nat) (A : Option Addr) (c : Nat) (D : List Nat) (K b6 s : Nat) (N : Int) (A1 : Option Addr) (c1 : Nat) (L : List Nat) (W : World) : Prop where
  cur : Cur W g A c D K
  grown : w2.grownBy W (some g)
  box : Box W b6 26 #[.int .i64 N, .slice A1 L.length c1]
  res : Box W s 26 #[.int .i64 0, .slice none 0 0]
  nb : b6 ≠ g
  ns : s ≠ g
section
variable {w2 : World} {g : Nat} {A : Option Addr} {c : Nat} {D : List Nat} {K K' b6 s : Nat} {N : Int} {A1 : Option Addr} {c1 : Nat} {L : List Nat} {W W' : World}
theorem SelInv.past (h : SelInv w2 g A c D K b6 s N A1 c1 L W) (hc : Cur W' g A c D K') (hg : W.grownBy W' (some g)) : SelInv w2 g A c D K' b6 s N A1 c1 L W' :=
  ⟨hc, h.grown.trans hg, box_kept h.box hg h.nb, box_kept h.res hg h.ns, h.nb, h.ns⟩
theorem SelInv.more (h : SelInv w2 g A c D K b6 s N A1 c1 L W) (hK : K ≤ K') : SelInv w2 g A c D K' b6 s N A1 c1 L W := ⟨h.cur.more hK, h.grown, h.box, h.res, h.nb, h.ns⟩
theorem SelInv.alloc (h : SelInv w2 g A c D K b6 s N A1 c1 L W) (o : Obj) : SelInv w2 g A c D K b6 s N A1 c1 L (W.alloc o) :=
  ⟨cur_alloc h.cur o, h.grown.trans (World.grownBy_alloc W o (some g)), h.box.alloc o, h.res.alloc o, h.nb, h.ns⟩
theorem SelInv.drew (h : SelInv w2 g A c D K b6 s N A1 c1 L W) : SelInv w2 g A c D K b6 s N A1 c1 L W.drew :=
  ⟨h.cur.drew 1, h.grown.trans (grownBy_drew _ 1 _), h.box, h.res, h.nb, h.ns⟩
theorem SelInv.cells (h : SelInv w2 g A c D K b6 s N A1 c1 L W) : W.cell? ⟨b6, 0, none⟩ = some (.int .i64 N) ∧ W.cell? ⟨b6, 1, none⟩ = some (.slice A1 L.length c1) := by
  have p0 := h.box.cell 0
  have p1 := h.box.cell 1
  simp only [List.getElem?_toArray, List.getElem?_cons_zero, List.getElem?_cons_succ] at p0 p1
  exact ⟨p0, p1⟩
theorem SelInv.cellsPut (h : SelInv w2 g A c D K b6 s N A1 c1 L W) (hne : ¬ b6 = s) (v0 v1 : Value) : ((W.setCell ⟨s, 0, none⟩ v0).setCell ⟨s, 1, none⟩ v1).cell? ⟨b6, 0, none⟩ = some (.int .i64 N) ∧ ((W.setCell ⟨s, 0, none⟩ v0).setCell ⟨s, 1, none⟩ v1).cell? ⟨b6, 1, none⟩ = some (.slice A1 L.length c1) := by
  have hx := (h.box.off (p := ⟨s, 0, none⟩) hne v0).off (p := ⟨s, 1, none⟩) hne v1
  have p0 := hx.cell 0
  have p1 := hx.cell 1
  simp only [List.getElem?_toArray, List.getElem?_cons_zero, List.getElem?_cons_succ] at p0 p1
  exact ⟨p0, p1⟩
theorem SelInv.cellsPutAlloc (h : SelInv w2 g A c D K b6 s N A1 c1 L W) (hne : ¬ b6 = s) (v0 v1 : Value) (o : Obj) : (((W.setCell ⟨s, 0, none⟩ v0).setCell ⟨s, 1, none⟩ v1).alloc o).cell? ⟨b6, 0, none⟩ = some (.int .i64 N) ∧ (((W.setCell ⟨s, 0, none⟩ v0).setCell ⟨s, 1, none⟩ v1).alloc o).cell? ⟨b6, 1, none⟩ = some (.slice A1 L.length c1) := by
  have hx := ((h.box.off (p := ⟨s, 0, none⟩) hne v0).off (p := ⟨s, 1, none⟩) hne v1).alloc o
  have p0 := hx.cell 0
  have p1 := hx.cell 1
  simp only [List.getElem?_toArray, List.getElem?_cons_zero, List.getElem?_cons_succ] at p0 p1
  exact ⟨p0, p1⟩
theorem SelInv.resCells (h : SelInv w2 g A c D K b6 s N A1 c1 L W) : W.cell? ⟨s, 0, none⟩ = some (.int .i64 0) ∧ W.cell? ⟨s, 1, none⟩ = some (.slice none 0 0) ∧ W.frozen? ⟨s, 0, none⟩ = false ∧ W.frozen? ⟨s, 1, none⟩ = false ∧ s < W.heap.size := by
  have p0 := h.res.cell 0
  have p1 := h.res.cell 1
  simp only [List.getElem?_toArray, List.getElem?_cons_zero, List.getElem?_cons_succ] at p0 p1
  exact ⟨p0, p1, h.res.frozen 0, h.res.frozen 1, h.res.lt⟩
end

/-- What is held may be said more strictly on the way. -/
theorem held_more {P : Program} {md : Region.Mode} {ops : Array Oper} {Q : Exit → Act → World → Prop} {S S' : World → Prop} (h : ∀ w, S' w → S w) : ∀ (fuel : Nat) (listed : Array Bool) (a : Act) (w : World), wpAnyH P md ops Q S' fuel listed a w → wpAnyH P md ops Q S fuel listed a w
  | 0, _, _, _, k => k
  | fuel + 1, _, _, _, k => ⟨k.1, fun i hi => wpOp_mono (fun a' w' h' => ⟨h _ h'.1, held_more h fuel _ a' w' h'.2⟩) (k.2 i hi)⟩

end Go.Proofs.YtanllfidbhjboaaDoor
