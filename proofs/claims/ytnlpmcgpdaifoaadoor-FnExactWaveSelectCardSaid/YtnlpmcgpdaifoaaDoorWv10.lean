/- WaveList, WaveAt, WaveRank, WaveLess of the specification. -/
import Derived.Test.YtnlpmcgpdaifoaaDoorWv8
import Derived.Test.YtnlpmcgpdaifoaaDoorWv9
import Derived.Test.YtnlpmcgpdaifoaaDoorCntL
import Derived.Test.YtnlpmcgpdaifoaaDoorScene
namespace Go.Proofs.YtnlpmcgpdaifoaaDoor
open Go.RowKit
set_option maxRecDepth 100000

theorem newI_nil {w w' : World} (hb : Below w.heap.size w w') : NewI w [] (.returned (.slice none 0 0)) w' := ⟨none, 0, rfl, World.ownsRow_nil _ _ _ _, hb⟩
theorem NewI.from {w w1 w' : World} {M : List Int} {e : Ending} (h : NewI w1 M e w') (hb : Below w.heap.size w w1) : NewI w M e w' := by
  obtain ⟨A, c, h1, h2, h3⟩ := h
  exact ⟨A, c, h1, own_mono h2 hb.size, below_then hb h3⟩

section
variable (N : Int) (ZA : Option Addr) (zc : Nat) (Z : List Int) (LA : Option Addr) (lc : Nat) (P : List LvA)
set_option maxHeartbeats 1600000 in
theorem specWaveList_any (w : World) (hL : LiesWa w ⟨N, ZA, zc, Z, LA, lc, P⟩) : Calls Tryd.prog 39 #[WaA.value ⟨N, ZA, zc, Z, LA, lc, P⟩] w (NewI w (wList N Z (P.map LvA.val))) := by
  have HB0 : Hid (Below w.heap.size w (w.alloc (.cells #[.int .i64 N, .slice ZA Z.length zc, .slice LA P.length lc] 28))) := Lib.hid (by go_grown)
  have HX0 : Hid (Box (w.alloc (.cells #[.int .i64 N, .slice ZA Z.length zc, .slice LA P.length lc] 28)) w.heap.size 28 #[.int .i64 N, .slice ZA Z.length zc, .slice LA P.length lc]) := Lib.hid (Box.made _ _ _)
  have CO := Lib.hid fun (W : World) (hW : Below w.heap.size w W) => specWaveOk_any ⟨N, ZA, zc, Z, LA, lc, P⟩ W (hL.below hW)
  have CL := Lib.hid fun (W : World) (hW : Below w.heap.size w W) hok => l07List_any ⟨N, ZA, zc, Z, LA, lc, P⟩ W (hL.below hW) hok
  unfold WaA.value at *
  simp only at CO CL ⊢
  clear hL
  obtain ⟨M, hM⟩ : ∃ M, wList N Z (P.map LvA.val) = M := ⟨_, rfl⟩
  rw [hM]
  go_enter Tryd.func39, Tryd.ntmps39
  go_wp2_with fail
  generalize w.alloc (.cells #[.int .i64 N, .slice ZA Z.length zc, .slice LA P.length lc] 28) = W0 at *
  refine (CO.out _ HB0.out).mono ?_
  rintro e w1 ⟨rfl, hb1⟩
  have HB1 := Lib.hid (below_then HB0.out hb1)
  have hx1 := HX0.out.below hb1 HX0.out.lt
  have x0 := hx1.cell 0
  have x1 := hx1.cell 1
  have x2 := hx1.cell 2
  have xl := hx1.lt
  clear hb1 hx1 CO
  cases hok : WaA.ok ⟨N, ZA, zc, Z, LA, lc, P⟩
  · have HN : Hid (NewI w M (.returned (.slice none 0 0)) w1) := Lib.hid (by
      rw [← hM, show wList N Z (P.map LvA.val) = [] by unfold wList; rw [show wvOk N Z (P.map LvA.val) = false from hok]; rfl]
      exact newI_nil HB1.out)
    clear hok hM CL
    go_wp2
    go_ret
    exact HN.out
  · have C := Lib.hid (CL.out w1 HB1.out hok)
    rw [show wB N (P.map LvA.val) = M by rw [← hM]; unfold wList; rw [show wvOk N Z (P.map LvA.val) = true from hok]; rfl] at C
    clear hok hM CL
    go_wp2_with fail
    refine C.out.mono ?_
    intro e w2 hN
    obtain ⟨A, c, rfl, ho, hb⟩ := hN.from HB1.out
    have HN := Lib.hid (show NewI w M (.returned (.slice A M.length c)) w2 from ⟨A, c, rfl, ho, hb⟩)
    clear hN ho hb
    go_wp2
    go_ret
    exact HN.out

theorem less_take (M : List Int) (x y : Int) (a k : Nat) (hk : a ≤ k) (h : M[k]? = some y) : lessL M x a (k + 1) = lessL M x a k + if y < x then 1 else 0 := by
  have hl := (List.getElem?_eq_some_iff.1 h).1
  unfold lessL
  rw [List.take_add_one, h, Option.toList_some, List.drop_append_of_le_length (by rw [List.length_take]; omega), List.countP_append, List.countP_singleton]
  simp

end

end Go.Proofs.YtnlpmcgpdaifoaaDoor
