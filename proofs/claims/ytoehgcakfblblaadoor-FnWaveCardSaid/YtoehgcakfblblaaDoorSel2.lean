/- The program's TrailingZeros64, where the table of math/bits lies as its text lays it. -/
import Derived.Test.YtoehgcakfblblaaDoorWvMath2
import Derived.Test.YtoehgcakfblblaaDoorImpl2
import Derived.Test.YtoehgcakfblblaaDoorDraw3
namespace Go.Proofs.YtoehgcakfblblaaDoor
open Go.RowKit
set_option maxRecDepth 100000

/-- The place of 2^i in the table. -/
def deb (i : Nat) : Nat := 2 ^ i * 285870213051353865 % 2 ^ 64 / 2 ^ 58
theorem deb_lt (i : Nat) : deb i < 64 := by
  unfold deb
  have := Nat.mod_lt (2 ^ i * 285870213051353865) (show 0 < 2 ^ 64 by decide)
  omega
/-- The table lies in the first block. -/
def Tab (w : World) : Prop := 0 < w.heap.size ∧ ∀ i, i < 64 → w.cell? ⟨0, deb i, none⟩ = some (.int .u8 i)
theorem Tab.below {w w' : World} (h : Tab w) (hb : Below w.heap.size w w') : Tab w' :=
  ⟨Nat.lt_of_lt_of_le h.1 hb.size, fun i hi => (hb.cell (p := ⟨0, deb i, none⟩) h.1).trans (h.2 i hi)⟩

set_option maxHeartbeats 400000 in
theorem trailing_any (x i q : Nat) (w : World) (hx : x < 2 ^ 64) (he : x = 2 ^ (i + 1) * q + 2 ^ i) (hi : i < 64) (hT : Tab w) :
    Calls Tryd.prog 57 #[U x] w fun e w' => e = .returned (.int .i64 i) ∧ w = w' := by
  have hp := Nat.two_pow_pos i
  have h0 : 0 < x := by omega
  have t0 : ((x : Int) == 0) = false := by rw [beq_eq_false_iff_ne]; omega
  obtain ⟨y, hy⟩ : ∃ y, 2 ^ 64 - x = y := ⟨_, rfl⟩
  have e1 : IntKind.u64.wrap (-(x : Int)) = (y : Int) := by rw [IntKind.wrap_u64]; omega
  have e2 : bits .and .u64 (x : Int) (y : Int) = ((2 ^ i : Nat) : Int) := by
    rw [u64_and_nat x y hx (by omega), ← hy, he, and_neg 64 i q hi (by rw [← he]; exact hx)]
  obtain ⟨p, hpp⟩ : ∃ p, 2 ^ i = p := ⟨_, rfl⟩
  rw [hpp] at e2
  obtain ⟨m, hm⟩ : ∃ m, p * 285870213051353865 % 2 ^ 64 = m := ⟨_, rfl⟩
  have e3 : IntKind.u64.wrap ((p : Int) * 285870213051353865) = (m : Int) := by rw [IntKind.wrap_u64]; omega
  obtain ⟨d, hd⟩ : ∃ d, deb i = d := ⟨_, rfl⟩
  have e4 : (m : Int) / 288230376151711744 = (d : Int) := by
    have : m / 2 ^ 58 = d := by rw [← hm, ← hpp]; exact hd
    omega
  have hd64 : (d : Int) < 64 := by have := deb_lt i; omega
  have hc := hT.2 i hi
  rw [hd] at hc
  clear he hp hy hpp hm hd hT
  go_enter Tryd.func57, Tryd.ntmps57
  go_wp2
  go_ret
  exact ⟨rfl, rfl⟩

end Go.Proofs.YtoehgcakfblblaaDoor
