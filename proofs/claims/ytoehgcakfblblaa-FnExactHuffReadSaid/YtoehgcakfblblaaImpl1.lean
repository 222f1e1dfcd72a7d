/- The program's BitsOk. -/
import Derived.Test.YtoehgcakfblblaaBitMath
import Derived.Test.YtoehgcakfblblaaLaws2
import Derived.Test.YtoehgcakfblblaaLaws3
namespace Go.Proofs.Ytoehgcakfblblaa
open Go.RowKit
set_option maxRecDepth 100000

set_option maxHeartbeats 400000 in
theorem wordsFor_any (n : Nat) (w : World) (hn : n ≤ 5000) :
    Calls Try.prog 109 #[.int .i64 n] w fun e w' => e = .returned (.int .i64 ((n + 63) / 64 : Nat)) ∧ w = w' := by
  go_enter Try.func109, Try.ntmps109
  go_wp2
  go_ret
  exact ⟨ret_int (by omega), rfl⟩

set_option maxHeartbeats 400000 in
theorem implOk_neg (N : Int) (A : Option Addr) (n c : Nat) (w : World) (h : N < 0) :
    Calls Try.prog 75 #[.agg #[.int .i64 N, .slice A n c]] w fun e w' => e = .returned (.bool false) ∧ Below w.heap.size w w' := by
  have hd : decide (N < 0) = true := by simpa using h
  go_enter Try.func75, Try.ntmps75
  go_wp2
  go_quiet (fail)
  go_wp2
  go_ret
  exact ⟨rfl, below_dN (by go_grown) _⟩

set_option maxHeartbeats 400000 in
theorem implOk_big (N : Int) (A : Option Addr) (n c : Nat) (w : World) (h : 5000 < N) :
    Calls Try.prog 75 #[.agg #[.int .i64 N, .slice A n c]] w fun e w' => e = .returned (.bool false) ∧ Below w.heap.size w w' := by
  have hd : decide (N < 0) = false := by simp; omega
  have hd2 : decide (5000 < N) = true := by simpa using h
  go_enter Try.func75, Try.ntmps75
  go_wp2
  go_quiet (fail)
  go_wp2
  go_ret
  exact ⟨rfl, below_dN (by go_grown) _⟩

set_option maxHeartbeats 400000 in
theorem implOk_len (N : Nat) (A : Option Addr) (n c : Nat) (w : World) (h : N ≤ 5000) (hl : n ≠ (N + 63) / 64) :
    Calls Try.prog 75 #[.agg #[.int .i64 N, .slice A n c]] w fun e w' => e = .returned (.bool false) ∧ Below w.heap.size w w' := by
  have hd : decide ((N : Int) < 0) = false := by simp
  have hd2 : decide (5000 < (N : Int)) = false := by simp; omega
  obtain ⟨m, hm⟩ : ∃ m, (N + 63) / 64 = m := ⟨_, rfl⟩
  have C : ∀ W : World, Calls Try.prog 109 #[.int .i64 N] W fun e w' => e = .returned (.int .i64 m) ∧ w' = W := fun W =>
    (wordsFor_any N W h).mono fun e w' h => ⟨by rw [h.1, hm], h.2.symm⟩
  rw [hm] at hl
  have h1 : ((n : Int) != (m : Int)) = true := by rw [bne_iff_ne]; omega
  have h2 : (n != m) = true := by rw [bne_iff_ne]; omega
  have HC := Lib.hid C
  clear C hm
  go_enter Try.func75, Try.ntmps75
  go_wp2
  go_quiet ((go_at_call 109; exact Calls.quiet_of_same (HC.out _)))
  go_wp2
  go_ret
  exact ⟨rfl, below_dN (by go_grown) _⟩

end Go.Proofs.Ytoehgcakfblblaa
