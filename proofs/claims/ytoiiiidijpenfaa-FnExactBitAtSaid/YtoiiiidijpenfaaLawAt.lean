/- The law of BitAt walked. -/
import Derived.Test.YtoiiiidijpenfaaLaws4
import Derived.Test.YtoiiiidijpenfaaLaws5
import Derived.Test.YtoiiiidijpenfaaAt1
import Derived.Test.YtoiiiidijpenfaaAt2
namespace Go.Proofs.Ytoiiiidijpenfaa
open Go.RowKit

set_option maxHeartbeats 400000 in
theorem lawAt_big (N : Int) (A : Option Addr) (n c : Nat) (i : Int) (w : World) (hn : n ≤ 9223372036854775807) (hbig : 1048576 < n) :
    Calls Try.prog 7 #[.agg #[.int .i64 N, .slice A n c], .int .i64 i] w fun e w' => e = .returned (.bool true) ∧ Below w.heap.size w w' := by
  have c1 := fun W => szBits_any N A n c 1048576 W hn (by omega) (by omega)
  simp only [if_pos (show (1048576 : Int) < (n : Int) by omega)] at c1
  have C := Lib.hid c1
  clear c1
  go_enter Try.func7, Try.ntmps7
  go_wp2_with fail
  refine (C.out _).mono ?_
  rintro e w1 ⟨rfl, hb⟩
  have HB := Lib.hid hb
  clear hb
  go_wp2
  go_ret
  exact ⟨rfl, Below.trans (by go_grown) (HB.out.mono (by go_size))⟩

set_option maxHeartbeats 400000 in
theorem lawAt (N : Int) (A : Option Addr) (c : Nat) (L : List Nat) (i : Int) (w : World) (hL : Lies w U A L) (hbig : L.length ≤ 1048576) (hw : ∀ x ∈ L, x < 2 ^ 64) :
    Calls Try.prog 7 #[.agg #[.int .i64 N, .slice A L.length c], .int .i64 i] w fun e w' => e = .returned (.bool true) ∧ Below w.heap.size w w' := by
  have HW := Lib.hid hw
  clear hw
  have c1 := fun W => szBits_any N A L.length c 1048576 W (by omega) (by omega) (by omega)
  simp only [if_neg (show ¬ (1048576 : Int) < (L.length : Int) by omega)] at c1
  have C := Lib.hid c1
  clear c1
  go_enter Try.func7, Try.ntmps7
  go_wp2_with fail
  generalize hW0 : w.alloc (Obj.cells #[Value.int IntKind.i64 N, Value.slice A L.length c] 42) = W0
  have hx0 : Box W0 w.heap.size 42 #[.int .i64 N, .slice A L.length c] := by rw [← hW0]; exact Box.made _ _ _
  have hb0 : Below w.heap.size w W0 := by rw [← hW0]; go_grown
  have hL0 := hL.below hb0
  clear hL hW0
  refine (C.out _).mono ?_
  rintro e w1 ⟨rfl, hb⟩
  have hx1 := hx0.below hb hx0.lt
  have hb1 := hb0.trans (hb.mono hb0.size)
  have hL1 := hL0.below hb
  clear hx0 hb0 hL0 hb
  have f0 := hx1.cell 0
  have f1 := hx1.cell 1
  simp only [List.getElem?_toArray, List.getElem?_cons_zero, List.getElem?_cons_succ] at f0 f1
  have hnz : ¬ ((1048576 : Int) - L.length < 0) := by omega
  go_wp2_with fail
  refine (toBits_any N A c L _ hL1 (by omega)).mono ?_
  rintro e w2 ⟨rfl, hown, hb⟩
  have hx2 := hx1.below hb hx1.lt
  have hb2 := hb1.trans (hb.mono hb1.size)
  have hL2 := hL1.below hb
  have hX2 : Lies w2 U _ L := Lies.of_own hown
  clear hx1 hb1 hL1 hb hown f0 f1 hnz C
  go_wp2_with fail
  refine (specAt_any N _ _ L i _ hX2 HW.out).mono ?_
  rintro e w3 ⟨rfl, hb⟩
  have hx3 := hx2.below hb hx2.lt
  have hb3 := hb2.trans (hb.mono hb2.size)
  have hL3 := hL2.below hb
  clear hx2 hb2 hL2 hb hX2
  have f0 := hx3.cell 0
  have f1 := hx3.cell 1
  simp only [List.getElem?_toArray, List.getElem?_cons_zero, List.getElem?_cons_succ] at f0 f1
  go_wp2_with fail
  refine (toBits_any N A c L _ hL3 (by omega)).mono ?_
  rintro e w4 ⟨rfl, hown, hb⟩
  have hx4 := hx3.below hb hx3.lt
  have hb4 := hb3.trans (hb.mono hb3.size)
  have hL4 := hL3.below hb
  have hX4 : Lies w4 U _ L := Lies.of_own hown
  clear hx3 hb3 hL3 hb hown f0 f1
  generalize w3.heap.size + 3 = g at *
  go_wp2_with fail
  generalize hW5 : w4.alloc (Obj.cells #[Value.int IntKind.i64 N, Value.slice (some ⟨g, 0, none⟩) L.length L.length] 26) = W5
  have hy5 : Box W5 w4.heap.size 26 #[.int .i64 N, .slice (some ⟨g, 0, none⟩) L.length L.length] := by rw [← hW5]; exact Box.made _ _ _
  have hb45 : Below w4.heap.size w4 W5 := by rw [← hW5]; go_grown
  have hx5 := hx4.below hb45 hx4.lt
  have hb5 := hb4.trans (hb45.mono hb4.size)
  have hL5 := hL4.below hb45
  have hX5 := hX4.below hb45
  clear hx4 hb4 hL4 hX4 hW5 hb45
  refine (implAt_any N _ _ L i _ hX5 HW.out).mono ?_
  rintro e w6 ⟨rfl, hb⟩
  have hx6 := hx5.below hb hx5.lt
  have hy6 := hy5.below hb hy5.lt
  have hb6 := hb5.trans (hb.mono hb5.size)
  have hL6 := hL5.below hb
  have hX6 := hX5.below hb
  clear hx5 hy5 hb5 hL5 hX5 hb
  generalize w4.heap.size = s at *
  generalize bitAtV N L i = ok at *
  have t1 : (ok != ok) = false := by simp
  have f0 := hx6.cell 0
  have f1 := hx6.cell 1
  have k0 := hy6.cell 0
  have k1 := hy6.cell 1
  have hs6 := hy6.lt
  have hS6 := hx6.lt
  simp only [List.getElem?_toArray, List.getElem?_cons_zero, List.getElem?_cons_succ] at f0 f1 k0 k1
  have HX := Lib.hid hX6
  have HL := Lib.hid hL6
  have HB := Lib.hid hb6
  clear hX6 hL6 hb6 hx6 hy6 HW
  have HE : Hid (∀ (W : World) (B : Option Addr) (d : Nat), Lies W U (some ⟨g, 0, none⟩) L → Lies W U B L → Calls Try.prog 23 #[.agg #[.int .i64 N, .slice (some ⟨g, 0, none⟩) L.length L.length], .agg #[.int .i64 N, .slice B L.length d]] W fun e w' => e = .returned (.bool true) ∧ Below W.heap.size W w') :=
    Lib.hid fun W B d h1 h2 => (eqBits_any N N _ B _ d L L W h1 h2 (by omega)).mono fun e w' h => ⟨by rw [h.1, decide_eq_true ⟨rfl, rfl⟩], h.2⟩
  go_wp2
  go_region_with (first | (go_at_call 30; refine (toBits_any N A c L _ (by exact HL.out.drew) (by omega)).mono ?_; rintro e w7 ⟨rfl, hown7, hb7⟩; have HO7 := Lib.hid hown7; have HB7 := Lib.hid hb7; have k07 := (hb7.cell (p := ⟨s, 0, none⟩) hs6).trans k0; have k17 := (hb7.cell (p := ⟨s, 1, none⟩) hs6).trans k1; clear hown7 hb7) | (go_at_call 23; refine (HE.out _ _ _ (by exact HX.out.drew.below HB7.out) (by exact Lies.of_own HO7.out)).mono ?_; rintro e w8 ⟨rfl, hb8⟩; have HB8 := Lib.hid hb8; clear hb8))
  all_goals go_wp2
  all_goals go_ret
  all_goals exact ⟨rfl, below_then (below_then HB.out.drew HB7.out) HB8.out⟩

end Go.Proofs.Ytoiiiidijpenfaa
