/- The law FnExactVarOf walked. -/
import Derived.Test.YticndfdicalmcaaBytes1
import Derived.Test.YticndfdicalmcaaScene
namespace Go.Proofs.Yticndfdicalmcaa
open Go.RowKit

set_option maxHeartbeats 400000 in
theorem lawVar (n : Int) (w : World) :
    Calls Try.prog 11 #[.int .i64 n] w fun e w' => e = .returned (.bool true) ∧ Below w.heap.size w w' := by
  have C1 := Lib.hid fun W : World => specVar_any n W
  have C2 := Lib.hid fun W : World => implVar_any n W
  have hM := varV_len n
  generalize varV n = M at *
  have dq : decide ((1 : Int) + (M.length : Int) < 0) = false := by simp; omega
  have dq2 : ¬ ((1 : Int) + (M.length : Int) < 0) := by omega
  go_enter Try.func11, Try.ntmps11
  have sc : Scene w w [] := Scene.start w
  go_wp2_with fail
  refine (C1.out _).mono ?_
  rintro e w1 ⟨A1, c1, rfl, ho, hb⟩
  replace sc := sc.row hb ho
  clear hb ho
  go_wp2_with fail
  refine (C2.out _).mono ?_
  rintro e w2 ⟨A2, c2, rfl, ho, hb⟩
  replace sc := sc.row hb ho
  clear hb ho
  go_wp2_with fail
  refine (eqByte _ _ _ _ M M _ (sc.lies 0 rfl) (sc.lies 1 rfl) (by omega)).mono ?_
  rintro e w3 ⟨rfl, q3, rfl⟩
  rw [decide_eq_true rfl]
  replace sc := sc.draw q3
  generalize w2.drewN q3 = w3 at *
  go_wp2_with fail
  refine (markByte _ _ _ 0 1 _ _ (sc.getRow 0 rfl) (by omega) (by omega) (by omega)).mono ?_
  rintro e w4 ⟨rfl, ho, hg⟩
  replace sc := sc.mark 0 rfl hg ho
  clear ho hg
  simp only [List.set_cons_zero, List.set_cons_succ] at sc
  go_wp2_with fail
  refine (heldByte _ _ _ 1 _ (lies_marks (sc.getRow 0 rfl)) (by omega) (by omega) (by omega)).mono ?_
  rintro e w5 ⟨rfl, rfl⟩
  go_wp2_with fail
  refine (C2.out _).mono ?_
  rintro e w6 ⟨A3, c3, rfl, ho, hb⟩
  replace sc := sc.row hb ho
  clear hb ho
  go_wp2_with fail
  refine (eqByte _ _ _ _ M M _ (sc.lies 0 rfl) (sc.lies 2 rfl) (by omega)).mono ?_
  rintro e w7 ⟨rfl, q7, rfl⟩
  rw [decide_eq_true rfl]
  replace sc := sc.draw q7
  generalize w6.drewN q7 = w7 at *
  go_wp2_with fail
  refine (heldByte _ _ _ 1 _ (lies_marks (sc.getRow 1 rfl)) (by omega) (by omega) (by omega)).mono ?_
  rintro e w8 ⟨rfl, rfl⟩
  have HB := Lib.hid sc.below
  clear sc
  go_wp2
  go_ret
  exact ⟨rfl, HB.out⟩

end Go.Proofs.Yticndfdicalmcaa
