/- The law FnExactTextOk walked (written by lawgen2.py). -/
import Derived.Test.YtlgnndfhpnbhmaaSf3
import Derived.Test.YtlgnndfhpnbhmaaScene4
namespace Go.Proofs.Ytlgnndfhpnbhmaa
open Go.RowKit

theorem implTextOk_b (A : Option Addr) (n c : Nat) (w : World) :
    Calls Try.prog 30 #[.slice A n c] w fun e w' => e = .returned (.bool (decide (n ≤ 300))) ∧ Below w.heap.size w w' :=
  (implTextOk_any A n c w).mono fun _ _ h => ⟨h.1, by rw [h.2]; exact Below.refl _ _⟩
theorem specTextOk_b (A : Option Addr) (n c : Nat) (w : World) :
    Calls Try.prog 17 #[.slice A n c] w fun e w' => e = .returned (.bool (decide (n ≤ 300))) ∧ Below w.heap.size w w' :=
  (specTextOk_any A n c w).mono fun _ _ h => ⟨h.1, by rw [h.2]; exact Below.refl _ _⟩

set_option maxHeartbeats 1600000 in
theorem lawTextOk (A0 : Option Addr) (c0 : Nat) (L0 : List Nat) (w : World) (hL0 : Lies w B8 A0 L0) (hw0 : ∀ x ∈ L0, x < 2 ^ 8) (hbig : L0.length ≤ 1048576) :
    Calls Try.prog 6 #[.slice A0 L0.length c0] w fun e w' => e = .returned (.bool true) ∧ Below w.heap.size w w' := by
  have HL0 := Lib.hid hL0
  clear hL0
  have HW0 := Lib.hid hw0
  clear hw0
  go_enter Try.func6, Try.ntmps6
  have sc : Scene w w [] := Scene.start w
  have hnd : decide ((1048576 : Int) < (L0.length : Int)) = false := by simp; omega
  go_wp2_with fail
  refine (toByte_new A0 c0 L0 _ (sc.liesOld HL0.out) (by omega)).mono ?_
  rintro e w1 ⟨Ap0, cp0, rfl, ho, hb⟩
  replace sc := sc.row hb ho
  clear hb ho
  go_wp2_with fail
  refine (specTextOk_b _ L0.length _ _).mono ?_
  rintro e w2 ⟨rfl, hb⟩
  replace sc := sc.step hb
  clear hb
  clear hnd
  go_wp2_with fail
  refine (toByte_new A0 c0 L0 _ (sc.liesOld HL0.out) (by omega)).mono ?_
  rintro e w3 ⟨Ax0, cx0, rfl, ho, hb⟩
  replace sc := sc.row hb ho
  clear hb ho
  go_wp2_with fail
  refine (implTextOk_b _ L0.length _ _).mono ?_
  rintro e w4 ⟨rfl, hb⟩
  replace sc := sc.step hb
  clear hb
  have t0G4 : ((decide (L0.length ≤ 300)) != (decide (L0.length ≤ 300))) = false := by simp
  go_wp2_with fail
  refine (toByte_new A0 c0 L0 _ (sc.liesOld HL0.out) (by omega)).mono ?_
  rintro e w5 ⟨Ay0, cy0, rfl, ho, hb⟩
  replace sc := sc.row hb ho
  clear hb ho
  go_wp2_with fail
  refine (eqByte _ _ _ _ L0 L0 _ (sc.lies 1 rfl) (sc.lies 0 rfl) (by omega)).mono ?_
  rintro e w6 ⟨rfl, qw6, rfl⟩
  rw [decide_eq_true rfl]
  replace sc := sc.draw qw6
  generalize w5.drewN qw6 = w6 at *
  have HB := Lib.hid sc.below
  clear sc
  go_wp2
  go_ret
  exact ⟨rfl, HB.out⟩

end Go.Proofs.Ytlgnndfhpnbhmaa
