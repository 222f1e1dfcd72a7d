/- The program's Rank, where it returns -1. -/
import Derived.Test.YtoehgcakfblblaaDoorSel5
import Derived.Test.YtoehgcakfblblaaDoorWvMath2
import Derived.Test.YtoehgcakfblblaaDoorSfD1
import Derived.Test.YtoehgcakfblblaaDoorImpl2
namespace Go.Proofs.YtoehgcakfblblaaDoor
open Go.RowKit
set_option maxRecDepth 100000

set_option maxHeartbeats 400000 in
theorem implRank_bad (N : Int) (A : Option Addr) (c : Nat) (L : List Nat) (b i : Int) (w : World) (hL : Lies w U A L) (hw : ∀ x ∈ L, x < 2 ^ 64) (hok : okB N L = false) :
    Calls Tryd.prog 26 #[.agg #[.int .i64 N, .slice A L.length c], .int .i64 b, .int .i64 i] w fun e w' => e = .returned (.int .i64 (-1)) ∧ Below w.heap.size w w' := by
  have HW := Lib.hid hw
  have HL := Lib.hid hL
  clear hw hL
  go_enter Tryd.func26, Tryd.ntmps26
  have sc : Scene w w [] := Scene.start w
  go_wp2_with fail
  replace sc := sc.box 46 #[.int .i64 N, .slice A L.length c]
  generalize w.alloc (Obj.cells #[.int .i64 N, .slice A L.length c] 46) = W0 at *
  refine (implOk_any N A c L _ (sc.liesOld HL.out) HW.out).mono ?_
  rintro e w1 ⟨rfl, hb⟩
  replace sc := sc.step hb
  rw [hok]
  clear hb hok
  have HB := Lib.hid sc.below
  clear sc
  go_wp2
  go_ret
  exact ⟨rfl, HB.out⟩

set_option maxHeartbeats 400000 in
theorem implRank_out (N : Int) (A : Option Addr) (c : Nat) (L : List Nat) (b i : Int) (w : World) (hL : Lies w U A L) (hw : ∀ x ∈ L, x < 2 ^ 64) (hok : okB N L = true) (hno : ¬ (b = 0 ∨ b = 1) ∨ i < 0 ∨ N < i) :
    Calls Tryd.prog 26 #[.agg #[.int .i64 N, .slice A L.length c], .int .i64 b, .int .i64 i] w fun e w' => e = .returned (.int .i64 (-1)) ∧ Below w.heap.size w w' := by
  have HW := Lib.hid hw
  have HL := Lib.hid hL
  clear hw hL
  go_enter Tryd.func26, Tryd.ntmps26
  have sc : Scene w w [] := Scene.start w
  go_wp2_with fail
  replace sc := sc.box 46 #[.int .i64 N, .slice A L.length c]
  generalize w.alloc (Obj.cells #[.int .i64 N, .slice A L.length c] 46) = W0 at *
  refine (implOk_any N A c L _ (sc.liesOld HL.out) HW.out).mono ?_
  rintro e w1 ⟨rfl, hb⟩
  replace sc := sc.step hb
  rw [hok]
  clear hb hok
  have HNo := Lib.hid hno
  clear hno
  go_wp2_with fail
  refine (isBit_sel b _).mono ?_
  rintro e w2 ⟨rfl, rfl⟩
  have HB := Lib.hid sc.below
  obtain ⟨fa0, fa1, fal⟩ := sc.two 0 rfl
  clear sc
  by_cases hb01 : b = 0 ∨ b = 1
  · rw [decide_eq_true hb01]
    have hi := HNo.out.resolve_left (fun h => h hb01)
    by_cases hi0 : i < 0
    · have d0 : decide (i < 0) = true := decide_eq_true hi0
      clear hb01 hi
      go_wp2
      go_ret
      exact ⟨rfl, HB.out⟩
    · have d0 : decide (i < 0) = false := decide_eq_false hi0
      have hN : N < i := hi.resolve_left hi0
      have d1 : decide (N < i) = true := decide_eq_true hN
      clear hb01 hi
      go_wp2
      go_ret
      exact ⟨rfl, HB.out⟩
  · rw [decide_eq_false hb01]
    clear hb01
    go_wp2
    go_ret
    exact ⟨rfl, HB.out⟩

end Go.Proofs.YtoehgcakfblblaaDoor
