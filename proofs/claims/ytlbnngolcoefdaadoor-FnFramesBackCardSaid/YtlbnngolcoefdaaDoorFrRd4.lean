/- FrameRead of the program. -/
import Derived.Test.YtlbnngolcoefdaaDoorFrRd3
namespace Go.Proofs.YtlbnngolcoefdaaDoor
open Go.RowKit
set_option maxRecDepth 100000

/-- What decodeFrame returns, seen from FrameRead. -/
theorem dc_seen {D : List Nat} {a : Int} {b : Addr} {w0 w w1 : World} {e : Ending} (hb0 : Below w0.heap.size w0 w) (h : DcRes D a b w e w1) :
    ∃ (K : Int) (A : Option Addr) (n c : Nat) (N : Int) (ev : Value) (r : Bool), e = .returned (.tuple #[.agg #[.int .i64 K, .slice A n c], .int .i64 N, ev]) ∧ Below w.heap.size w w1 ∧
      (∀ W, Calls Tryd.prog 77 #[ev, EN b] W fun e W' => e = .returned (.bool r) ∧ Below W.heap.size W W') ∧
      (∀ W', Below w1.heap.size w1 W' → ∀ u, RdRes D a w0 (.returned (.tuple #[.agg #[.int .i64 K, .slice A n c], .int .i64 N, .bool (!r)])) ((W'.setCell ⟨w0.heap.size, 0, none⟩ (.int .i64 K)).setCell ⟨w0.heap.size, 1, none⟩ u) ∨ w.heap.size ≤ w0.heap.size) := by
  unfold DcRes at h
  split at h
  · rename_i hr
    obtain ⟨⟨s, rfl⟩, hb⟩ := h
    refine ⟨0, none, 0, 0, 0, _, true, rfl, hb, fun W => is_wrap_same s b W, fun W' hb' u => .inl ?_⟩
    exact rd_res_none hr (((below_then (below_then hb0 hb) hb').setCell (p := ⟨w0.heap.size, 0, none⟩) (Nat.le_refl _) _).setCell (p := ⟨w0.heap.size, 1, none⟩) (Nat.le_refl _) _)
  · rename_i k B l hr
    obtain ⟨A, c, rfl, ho, hb⟩ := h
    refine ⟨k, A, B.length, c, a + (l : Int), _, false, rfl, hb, fun W => (is_nil b W).mono fun e W' h => ⟨h.1, by rw [h.2]; exact Below.refl _ _⟩, fun W' hb' u => ?_⟩
    by_cases hlt : w0.heap.size < w.heap.size
    · refine .inl (rd_res_some hr ?_ (((below_then (below_then hb0 hb) hb').setCell (p := ⟨w0.heap.size, 0, none⟩) (Nat.le_refl _) _).setCell (p := ⟨w0.heap.size, 1, none⟩) (Nat.le_refl _) _))
      exact own_mono (ownsRow_setCell_below (ownsRow_setCell_below (own_below ho hb' (Nat.le_refl _)) (a := ⟨w0.heap.size, 0, none⟩) hlt _) (a := ⟨w0.heap.size, 1, none⟩) hlt _) hb0.size
    · exact .inr (by omega)

set_option maxHeartbeats 1600000 in
theorem implFrameRead_any (A : Option Addr) (c : Nat) (D : List Nat) (a : Int) (b : Addr) (w : World) (hG : NoFrame w b) (hD : Lies w B8 A D) (hw : ∀ x ∈ D, x < 2 ^ 8) (hnc : D.length ≤ c) (hcm : c ≤ 9223372036854775807) (hn : D.length ≤ 17592186044416) :
    Calls Tryd.prog 29 #[.slice A D.length c, .int .i64 a] w (RdRes D a w) := by
  have HC : Hid (∀ W, Below w.heap.size w W → Calls Tryd.prog 76 #[.slice A D.length c, .int .i64 a] W (DcRes D a b W)) := Lib.hid fun W h => implDecode_any A c D a b W (hG.below h) (hD.below h) hw hnc hcm hn
  have HG := Lib.hid hG
  clear hG hD hw
  generalize D.length = n at *
  go_enter Tryd.func29, Tryd.ntmps29
  go_wp2_with fail
  have sx := Box.made w 49 #[.int .i64 0, .slice none 0 0]
  have hb0 : Below w.heap.size w (w.alloc (Obj.cells #[.int .i64 0, .slice none 0 0] 49)) := (Below.refl _ _).alloc (Nat.le_refl _) _
  have hs0 : (w.alloc (Obj.cells #[.int .i64 0, .slice none 0 0] 49)).heap.size = w.heap.size + 1 := by simp
  generalize w.alloc (Obj.cells #[.int .i64 0, .slice none 0 0] 49) = w0 at *
  refine (HC.out _ hb0).mono ?_
  intro e w1 he
  obtain ⟨K, A1, n1, c1, N1, ev, r, rfl, hb1, hIs, hEnd⟩ := dc_seen hb0 he
  have HIs := Lib.hid hIs
  have HEnd : Hid (∀ W', Below w1.heap.size w1 W' → RdRes D a w (.returned (.tuple #[.agg #[.int .i64 K, .slice A1 n1 c1], .int .i64 N1, .bool (!r)])) ((W'.setCell ⟨w.heap.size, 0, none⟩ (.int .i64 K)).setCell ⟨w.heap.size, 1, none⟩ (.slice A1 n1 c1))) := Lib.hid fun W' h => (hEnd W' h _).elim id fun h => by omega
  have sx1 := sx.below hb1 sx.lt
  have HB1 := Lib.hid (below_then hb0 hb1)
  clear hIs hEnd he sx hb0 hb1 HC hs0
  go_wp2_with fail
  have sx2 := sx1.alloc (.cells #[.int .i64 K, .slice A1 n1 c1] 49)
  have sy2 := Box.made w1 49 #[.int .i64 K, .slice A1 n1 c1]
  have hb2 : Below w1.heap.size w1 (w1.alloc (.cells #[.int .i64 K, .slice A1 n1 c1] 49)) := (Below.refl _ _).alloc (Nat.le_refl _) _
  have hlt := sx1.lt
  generalize w1.alloc (Obj.cells #[.int .i64 K, .slice A1 n1 c1] 49) = w2 at *
  have HB2 := Lib.hid hb2
  have HX := Lib.hid sx2
  have HY := Lib.hid sy2
  have HN2 := Lib.hid (HG.out.below (below_then HB1.out hb2))
  have g0 := HN2.out.1
  have g1 := HN2.out.2
  have y0 := sy2.cell 0
  have y1 := sy2.cell 1
  have y2 := sy2.lt
  have x0 := sx2.cell 0
  have x1 := sx2.cell 1
  have x2 := sx2.lt
  have z0 := sx2.frozen 0
  have z1 := sx2.frozen 1
  simp only [List.getElem?_toArray, List.getElem?_cons_zero, List.getElem?_cons_succ] at y0 y1 x0 x1
  clear sx1 sx2 sy2 hb2
  generalize w1.heap.size = s1 at *
  have hg0 := HG.out.2
  have q1 : ¬ s1 = w.heap.size := by omega
  have q2 : ¬ w.heap.size = s1 := by omega
  have q3 : ¬ 0 = w.heap.size := by omega
  have q4 : ¬ w.heap.size = 0 := by omega
  go_region_held3 (fun w' => w'.cell? ⟨s1, 0, none⟩ = some (.int .i64 K) ∧ w'.cell? ⟨s1, 1, none⟩ = some (.slice A1 n1 c1) ∧ w'.cell? ⟨0, 0, none⟩ = some (EN b)) (first | (go_keep; done) | (refine ⟨?_, ?_, ?_⟩ <;> assumption) | trivial)
    (first
      | (go_at_call 77; (with_reducible refine Calls.mono (HIs.out _) ?_); rintro e w3 ⟨rfl, hb3⟩; have HB3 := Lib.hid (((Below.refl w2.heap.size w2).drew).trans hb3); have xx := HX.out.below HB3.out HX.out.lt; have yy := HY.out.below HB3.out HY.out.lt; have y3 := yy.cell 0; have y4 := yy.cell 1; have x3 := xx.cell 0; have x4 := xx.cell 1; have x5 := xx.lt; have z3 := xx.frozen 0; have z4 := xx.frozen 1; have g3 := (HN2.out.below HB3.out).1; simp only [List.getElem?_toArray, List.getElem?_cons_zero, List.getElem?_cons_succ] at y3 y4 x3 x4; clear xx yy hb3))
  all_goals go_wp2
  all_goals refine bodyPost_ret (v := .tuple #[.agg #[.int .i64 K, .slice A1 n1 c1], .int .i64 N1, .bool (!r)]) (by simp [results, Tryd.results29, go_sem, x3, x4]) rfl ?_
  all_goals exact HEnd.out _ (HB2.out.trans (HB3.out.mono (Nat.le_of_lt y2)))

end Go.Proofs.YtlbnngolcoefdaaDoor
