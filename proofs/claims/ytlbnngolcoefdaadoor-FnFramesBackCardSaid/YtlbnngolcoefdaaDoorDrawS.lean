/- How long a drawn list is. -/
import Derived.Test.YtlbnngolcoefdaaDoorDraw3d
namespace Go.Proofs.YtlbnngolcoefdaaDoor
open Go.RowKit
set_option maxRecDepth 100000

set_option maxHeartbeats 1600000 in
theorem size20_any (g : Nat) (A : Option Addr) (c : Nat) (D : List Nat) (K : Nat) (w : World) (h : Cur w g A c D K) (hK : K ≤ 4611686018427387000) :
    Calls Tryd.prog 87 #[.pointer (some ⟨g, 0, none⟩), .int .i64 20] w fun e w' => ∃ r : Nat, e = .returned (.int .i64 r) ∧ r ≤ 20 ∧ Cur w' g A c D (K + 1) ∧ w.grownBy w' (some g) := by
  obtain ⟨a, s, _, _, hbox⟩ := h.box
  have f0 := hbox.cell 0
  simp only [List.getElem?_toArray, List.getElem?_cons_zero, List.getElem?_cons_succ] at f0
  obtain ⟨n, hni, hn20, hn1⟩ : ∃ n : Nat, (if 1 + (D.length : Int) / 8 < 20 then 1 + (D.length : Int) / 8 else 20) = (n : Int) ∧ n ≤ 20 ∧ 1 ≤ n := by
    by_cases h8 : 1 + D.length / 8 < 20
    · exact ⟨1 + D.length / 8, by rw [if_pos (by omega)]; omega, by omega, by omega⟩
    · exact ⟨20, by rw [if_neg (by omega)]; rfl, by omega, by omega⟩
  have hlen := h.len
  clear hbox
  go_enter Tryd.func87, Tryd.ntmps87
  go_wp2_with fail
  refine (pick_any g A c D K ((n : Int) + 1) w h (by omega) (by omega)).mono ?_
  rintro e w1 ⟨r, rfl, hr, _, hc1, hg1⟩
  have hr2 : (r : Int) < (n : Int) + 1 := hr (by omega)
  have HC := Lib.hid hc1
  have HG := Lib.hid hg1
  clear hr hc1 hg1 h f0
  go_wp2
  go_ret
  exact ⟨r, rfl, by omega, HC.out, HG.out⟩

end Go.Proofs.YtlbnngolcoefdaaDoor
