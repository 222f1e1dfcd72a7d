/- The number of binary digits: the library's Len, the specification's and the program's WidthOf. -/
import Derived.Test.YtkjelakdejbolaaProg
import Derived.Test.YtkjelakdejbolaaMem
import Derived.Lib.Strings
import Derived.Lib.Slices
import Derived.Lib.Small
import Derived.Lib.Walk
import Derived.Lib.BitFns
namespace Go.Proofs.Ytkjelakdejbolaa
open Go.RowKit
set_option maxRecDepth 100000

/-- What WidthOf is to return. -/
def widV (n : Int) : Int := if n < 0 then -1 else (Lib.bitLen n.toNat : Int)

theorem bitLen_64 (x : Nat) (h : x < 2 ^ 64) : Lib.bitLen x ≤ 64 := Lib.bitLen_le x 64 (Nat.le_refl _) h

theorem len8_le (i : Int) (h0 : 0 ≤ i) (h1 : i ≤ 255) : 0 ≤ Lib.len8 i ∧ Lib.len8 i ≤ 8 := by
  rw [Lib.len8_of i h0 h1]
  have := Lib.bitLen_le8' i h0 h1
  omega

/-- The last step of Len64: k bits are counted, a byte is left. -/
theorem len_end (x y : Int) (k : Nat) (h0 : 0 ≤ x) (h1 : x ≤ 18446744073709551615) (hy : y.toNat = x.toNat / 2 ^ k) (hlo : k = 0 ∨ 2 ^ k ≤ x.toNat) (hy0 : 0 ≤ y) (hy1 : y ≤ 255) : (k : Int) + Lib.len8 y = (Lib.bitLen x.toNat : Int) := by
  rw [Lib.len8_of _ hy0 hy1, hy]
  rcases hlo with rfl | h
  · simp
  · have := Lib.bitLen_shift k x.toNat h (by omega)
    omega

theorem index_len8 (i : Int) (h0 : 0 ≤ i) (h1 : i < 256) (W : World) : (Instr.index 9 (.string Lib.len8tab) (.int .u8 i)).run Try.prog W = .ok (.int .u8 (Lib.len8 i)) W := Lib.run_index_len8tab W 9 .u8 i Try.underlying9 h0 (by omega)

set_option maxHeartbeats 4000000 in
set_option maxRecDepth 100000 in
theorem len64_int (x : Int) (w : World) (h0 : 0 ≤ x) (h1 : x ≤ 18446744073709551615) :
    Calls Try.prog 75 #[.int .u64 x] w fun e w' => e = .returned (.int .i64 (Lib.bitLen x.toNat)) ∧ w = w' := by
  by_cases t0 : 4294967296 ≤ x
  · by_cases t1 : 65536 ≤ x / 4294967296
    · by_cases t2 : 256 ≤ x / 4294967296 / 65536
      · have g := fun W => index_len8 (x / 4294967296 / 65536 / 256) (by omega) (by omega) W
        have HE := Lib.hid (len_end x (x / 4294967296 / 65536 / 256) 56 h0 h1 (by simp only [Nat.reducePow]; omega) (.inr (by simp only [Nat.reducePow]; omega)) (by omega) (by omega))
        have hl : 0 ≤ Lib.len8 (x / 4294967296 / 65536 / 256) ∧ Lib.len8 (x / 4294967296 / 65536 / 256) ≤ 8 := len8_le _ (by omega) (by omega)
        go_enter Try.func75, Try.ntmps75
        go_wp2
        go_ret
        exact ⟨ret_int (by rw [← HE.out]; omega), rfl⟩
      · have g := fun W => index_len8 (x / 4294967296 / 65536) (by omega) (by omega) W
        have HE := Lib.hid (len_end x (x / 4294967296 / 65536) 48 h0 h1 (by simp only [Nat.reducePow]; omega) (.inr (by simp only [Nat.reducePow]; omega)) (by omega) (by omega))
        have hl : 0 ≤ Lib.len8 (x / 4294967296 / 65536) ∧ Lib.len8 (x / 4294967296 / 65536) ≤ 8 := len8_le _ (by omega) (by omega)
        go_enter Try.func75, Try.ntmps75
        go_wp2
        go_ret
        exact ⟨ret_int (by rw [← HE.out]; omega), rfl⟩
    · by_cases t2 : 256 ≤ x / 4294967296
      · have g := fun W => index_len8 (x / 4294967296 / 256) (by omega) (by omega) W
        have HE := Lib.hid (len_end x (x / 4294967296 / 256) 40 h0 h1 (by simp only [Nat.reducePow]; omega) (.inr (by simp only [Nat.reducePow]; omega)) (by omega) (by omega))
        have hl : 0 ≤ Lib.len8 (x / 4294967296 / 256) ∧ Lib.len8 (x / 4294967296 / 256) ≤ 8 := len8_le _ (by omega) (by omega)
        go_enter Try.func75, Try.ntmps75
        go_wp2
        go_ret
        exact ⟨ret_int (by rw [← HE.out]; omega), rfl⟩
      · have g := fun W => index_len8 (x / 4294967296) (by omega) (by omega) W
        have HE := Lib.hid (len_end x (x / 4294967296) 32 h0 h1 (by simp only [Nat.reducePow]; omega) (.inr (by simp only [Nat.reducePow]; omega)) (by omega) (by omega))
        have hl : 0 ≤ Lib.len8 (x / 4294967296) ∧ Lib.len8 (x / 4294967296) ≤ 8 := len8_le _ (by omega) (by omega)
        go_enter Try.func75, Try.ntmps75
        go_wp2
        go_ret
        exact ⟨ret_int (by rw [← HE.out]; omega), rfl⟩
  · by_cases t1 : 65536 ≤ x
    · by_cases t2 : 256 ≤ x / 65536
      · have g := fun W => index_len8 (x / 65536 / 256) (by omega) (by omega) W
        have HE := Lib.hid (len_end x (x / 65536 / 256) 24 h0 h1 (by simp only [Nat.reducePow]; omega) (.inr (by simp only [Nat.reducePow]; omega)) (by omega) (by omega))
        have hl : 0 ≤ Lib.len8 (x / 65536 / 256) ∧ Lib.len8 (x / 65536 / 256) ≤ 8 := len8_le _ (by omega) (by omega)
        go_enter Try.func75, Try.ntmps75
        go_wp2
        go_ret
        exact ⟨ret_int (by rw [← HE.out]; omega), rfl⟩
      · have g := fun W => index_len8 (x / 65536) (by omega) (by omega) W
        have HE := Lib.hid (len_end x (x / 65536) 16 h0 h1 (by simp only [Nat.reducePow]; omega) (.inr (by simp only [Nat.reducePow]; omega)) (by omega) (by omega))
        have hl : 0 ≤ Lib.len8 (x / 65536) ∧ Lib.len8 (x / 65536) ≤ 8 := len8_le _ (by omega) (by omega)
        go_enter Try.func75, Try.ntmps75
        go_wp2
        go_ret
        exact ⟨ret_int (by rw [← HE.out]; omega), rfl⟩
    · by_cases t2 : 256 ≤ x
      · have g := fun W => index_len8 (x / 256) (by omega) (by omega) W
        have HE := Lib.hid (len_end x (x / 256) 8 h0 h1 (by simp only [Nat.reducePow]; omega) (.inr (by simp only [Nat.reducePow]; omega)) (by omega) (by omega))
        have hl : 0 ≤ Lib.len8 (x / 256) ∧ Lib.len8 (x / 256) ≤ 8 := len8_le _ (by omega) (by omega)
        go_enter Try.func75, Try.ntmps75
        go_wp2
        go_ret
        exact ⟨ret_int (by rw [← HE.out]; omega), rfl⟩
      · have g := fun W => index_len8 (x) (by omega) (by omega) W
        have HE := Lib.hid (len_end x (x) 0 h0 h1 (by simp only [Nat.reducePow]; omega) (.inl rfl) (by omega) (by omega))
        have hl : 0 ≤ Lib.len8 (x) ∧ Lib.len8 (x) ≤ 8 := len8_le _ (by omega) (by omega)
        go_enter Try.func75, Try.ntmps75
        go_wp2
        go_ret
        exact ⟨ret_int (by rw [← HE.out]; omega), rfl⟩

theorem len64_any (x : Nat) (w : World) (hx : x < 2 ^ 64) :
    Calls Try.prog 75 #[U x] w fun e w' => e = .returned (.int .i64 (Lib.bitLen x)) ∧ w = w' := len64_int x w (by omega) (by omega)

end Go.Proofs.Ytkjelakdejbolaa
