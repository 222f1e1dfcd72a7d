/- FrameOk, the program's and the specification's. -/
import Derived.Test.YtlbnngolcoefdaaDoorProg
import Derived.Test.YtlbnngolcoefdaaDoorRdMath
namespace Go.Proofs.YtlbnngolcoefdaaDoor
open Go.RowKit
set_option maxRecDepth 100000

set_option maxHeartbeats 400000 in
theorem implFrameOk_any (K : Int) (A : Option Addr) (c n : Nat) (w : World) :
    Calls Tryd.prog 72 #[.agg #[.int .i64 K, .slice A n c]] w fun e w' => e = .returned (.bool (okF K n)) ∧ Below w.heap.size w w' := by
  by_cases h1 : 0 ≤ K
  · by_cases h2 : K ≤ 255
    · by_cases h3 : n ≤ 8000
      · have d3 : decide ((n : Int) ≤ 8000) = true := by simpa using (by omega : (n : Int) ≤ 8000)
        have HF : Hid (okF K n = true) := Lib.hid (decide_eq_true (show 0 ≤ K ∧ K ≤ 255 ∧ n ≤ 8000 from ⟨h1, h2, h3⟩))
        go_enter Tryd.func72, Tryd.ntmps72
        go_wp2
        go_ret
        exact ⟨ret_bool HF.out.symm, by go_grown⟩
      · have d3 : decide ((n : Int) ≤ 8000) = false := by simp; omega
        have HF : Hid (okF K n = false) := Lib.hid (decide_eq_false (show ¬ (0 ≤ K ∧ K ≤ 255 ∧ n ≤ 8000) by omega))
        go_enter Tryd.func72, Tryd.ntmps72
        go_wp2
        go_ret
        exact ⟨ret_bool HF.out.symm, by go_grown⟩
    · have HF : Hid (okF K n = false) := Lib.hid (decide_eq_false (show ¬ (0 ≤ K ∧ K ≤ 255 ∧ n ≤ 8000) by omega))
      go_enter Tryd.func72, Tryd.ntmps72
      go_wp2
      go_ret
      exact ⟨ret_bool HF.out.symm, by go_grown⟩
  · have HF : Hid (okF K n = false) := Lib.hid (decide_eq_false (show ¬ (0 ≤ K ∧ K ≤ 255 ∧ n ≤ 8000) by omega))
    go_enter Tryd.func72, Tryd.ntmps72
    go_wp2
    go_ret
    exact ⟨ret_bool HF.out.symm, by go_grown⟩

set_option maxHeartbeats 400000 in
theorem specFrameOk_any (K : Int) (A : Option Addr) (c n : Nat) (w : World) :
    Calls Tryd.prog 28 #[.agg #[.int .i64 K, .slice A n c]] w fun e w' => e = .returned (.bool (okF K n)) ∧ Below w.heap.size w w' := by
  by_cases h1 : 0 ≤ K
  · by_cases h2 : K ≤ 255
    · by_cases h3 : n ≤ 8000
      · have d3 : decide ((n : Int) ≤ 8000) = true := by simpa using (by omega : (n : Int) ≤ 8000)
        have HF : Hid (okF K n = true) := Lib.hid (decide_eq_true (show 0 ≤ K ∧ K ≤ 255 ∧ n ≤ 8000 from ⟨h1, h2, h3⟩))
        go_enter Tryd.func28, Tryd.ntmps28
        go_wp2
        go_ret
        exact ⟨ret_bool HF.out.symm, by go_grown⟩
      · have d3 : decide ((n : Int) ≤ 8000) = false := by simp; omega
        have HF : Hid (okF K n = false) := Lib.hid (decide_eq_false (show ¬ (0 ≤ K ∧ K ≤ 255 ∧ n ≤ 8000) by omega))
        go_enter Tryd.func28, Tryd.ntmps28
        go_wp2
        go_ret
        exact ⟨ret_bool HF.out.symm, by go_grown⟩
    · have HF : Hid (okF K n = false) := Lib.hid (decide_eq_false (show ¬ (0 ≤ K ∧ K ≤ 255 ∧ n ≤ 8000) by omega))
      go_enter Tryd.func28, Tryd.ntmps28
      go_wp2
      go_ret
      exact ⟨ret_bool HF.out.symm, by go_grown⟩
  · have HF : Hid (okF K n = false) := Lib.hid (decide_eq_false (show ¬ (0 ≤ K ∧ K ≤ 255 ∧ n ≤ 8000) by omega))
    go_enter Tryd.func28, Tryd.ntmps28
    go_wp2
    go_ret
    exact ⟨ret_bool HF.out.symm, by go_grown⟩

end Go.Proofs.YtlbnngolcoefdaaDoor
