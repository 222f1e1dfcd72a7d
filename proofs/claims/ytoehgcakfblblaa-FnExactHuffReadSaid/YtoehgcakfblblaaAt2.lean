/- The program's BitAt. -/
import Derived.Test.YtoehgcakfblblaaImpl2
import Derived.Test.YtoehgcakfblblaaJoinMath
import Derived.Test.YtoehgcakfblblaaMem3
namespace Go.Proofs.Ytoehgcakfblblaa
open Go.RowKit
set_option maxRecDepth 100000

/-- One bit of a word, as the walk spells it. -/
theorem digit_form (x i : Nat) (hx : x < 2 ^ 64) : wrap64 (bits .and .u64 ((x : Int) / 2 ^ i) 1) = ((x / 2 ^ i % 2 : Nat) : Int) := by
  have hq : x / 2 ^ i < 2 ^ 64 := Nat.lt_of_le_of_lt (Nat.div_le_self _ _) hx
  have e : (x : Int) / 2 ^ i = ((x / 2 ^ i : Nat) : Int) := by simp
  have h := u64_and_nat (x / 2 ^ i) 1 hq (by decide)
  rw [nat_mask1] at h
  rw [e, show (1 : Int) = ((1 : Nat) : Int) from rfl, h]
  exact IntWalk.wrap64_in _ (by omega)

set_option maxHeartbeats 400000 in
theorem wordAt_any (g : Nat) (x i : Nat) (w : World) (hc : w.cell? ⟨g, 0, none⟩ = some (U x)) (hx : x < 2 ^ 64) (hi : i < 64) :
    Calls Try.prog 113 #[.pointer (some ⟨g, 0, none⟩), .int .i64 i] w fun e w' => e = .returned (.int .i64 (x / 2 ^ i % 2 : Nat)) ∧ w = w' := by
  have HD := Lib.hid (digit_form x i hx)
  have hs := fun W => run_shr_u64 (P := Try.prog) 128 x i (by omega) W
  go_enter Try.func113, Try.ntmps113
  go_wp2
  go_ret
  exact ⟨ret_int HD.out, rfl⟩

end Go.Proofs.Ytoehgcakfblblaa
