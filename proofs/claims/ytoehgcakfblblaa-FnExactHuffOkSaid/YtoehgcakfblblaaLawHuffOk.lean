/- The law FnExactHuffOk walked (written by lawgen6.py). -/
import Derived.Test.YtoehgcakfblblaaHf1
import Derived.Test.YtoehgcakfblblaaScene4
namespace Go.Proofs.Ytoehgcakfblblaa
open Go.RowKit

theorem specHuffOk_b (A : Option Addr) (c : Nat) (L : List Int) (w : World) (hL : Lies w I A L) :
    Calls Try.prog 41 #[.slice A L.length c] w fun e w' => e = .returned (.bool (okH L)) ∧ Below w.heap.size w w' :=
  (specHuffOk_any A c L w hL).mono fun _ _ h => ⟨h.1, by rw [← h.2]; exact Below.refl _ _⟩

set_option maxHeartbeats 1600000 in
theorem lawHuffOk (A0 : Option Addr) (c0 : Nat) (L0 : List Int) (w : World) (hL0 : Lies w I A0 L0) (hbig0 : L0.length ≤ 1048576) :
    Calls Try.prog 9 #[.slice A0 L0.length c0] w fun e w' => e = .returned (.bool true) ∧ Below w.heap.size w w' := by
  have HL0 := Lib.hid hL0
  clear hL0
  go_enter Try.func9, Try.ntmps9
  have sc : Scene w w [] := Scene.start w
  have hnd0 : decide ((1048576 : Int) < (L0.length : Int)) = false := by simp; omega
  go_wp2_with fail
  refine (toIntI A0 c0 L0 _ (sc.liesOld HL0.out) (by omega)).mono ?_
  rintro e w1 ⟨Ap0, cp0, rfl, ho, hb⟩
  replace sc := sc.row hb ho
  clear hb ho
  go_wp2_with fail
  refine (specHuffOk_b _ _ L0 _ (by exact sc.lies 0 rfl)).mono ?_
  rintro e w2 ⟨rfl, hb⟩
  replace sc := sc.step hb
  clear hb
  clear hnd0
  go_wp2_with fail
  refine (toIntI A0 c0 L0 _ (sc.liesOld HL0.out) (by omega)).mono ?_
  rintro e w3 ⟨Ax0, cx0, rfl, ho, hb⟩
  replace sc := sc.row hb ho
  clear hb ho
  go_wp2_with fail
  refine (implHuffOk_any _ _ L0 _ (by exact sc.lies 0 rfl)).mono ?_
  rintro e w4 ⟨rfl, hb⟩
  replace sc := sc.step hb
  clear hb
  have t0G4 : (okH L0 != okH L0) = false := by simp
  go_wp2_with fail
  refine (toIntI A0 c0 L0 _ (sc.liesOld HL0.out) (by omega)).mono ?_
  rintro e w5 ⟨Ay0, cy0, rfl, ho, hb⟩
  replace sc := sc.row hb ho
  clear hb ho
  go_wp2_with fail
  refine (eqInt _ _ _ _ L0 L0 _ (sc.lies 1 rfl) (sc.lies 0 rfl) (by omega)).mono ?_
  rintro e w6 ⟨rfl, qw6, rfl⟩
  rw [decide_eq_true rfl]
  replace sc := sc.draw qw6
  generalize w5.drewN qw6 = w6 at *
  have HB := Lib.hid sc.below
  clear sc
  go_wp2
  go_ret
  exact ⟨rfl, HB.out⟩

end Go.Proofs.Ytoehgcakfblblaa
