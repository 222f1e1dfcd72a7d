/- WidthOf, the specification's and the program's, and its law. -/
import Derived.Test.YtlbnngolcoefdaaDoorWid1
namespace Go.Proofs.YtlbnngolcoefdaaDoor
open Go.RowKit
set_option maxRecDepth 100000

set_option maxHeartbeats 400000 in
theorem len_any (x : Nat) (w : World) (hx : x < 2 ^ 64) :
    Calls Tryd.prog 119 #[U x] w fun e w' => e = .returned (.int .i64 (Lib.bitLen x)) ∧ w = w' := by
  have C : ∀ W : World, Calls Tryd.prog 128 #[U x] W fun e w' => e = .returned (.int .i64 (Lib.bitLen x)) ∧ W = w' := fun W => len64_any x W hx
  have HC := Lib.hid C
  clear C
  go_enter Tryd.func119, Tryd.ntmps119
  go_wp2_with (go_at_call 128; refine (HC.out _).mono ?_; rintro e w' ⟨rfl, rfl⟩)
  go_ret
  exact ⟨rfl, rfl⟩

set_option maxHeartbeats 400000 in
theorem implWid_any (n : Int) (w : World) (hn : n ≤ 9223372036854775807) :
    Calls Tryd.prog 93 #[.int .i64 n] w fun e w' => e = .returned (.int .i64 (widV n)) ∧ w = w' := by
  by_cases h : n < 0
  · rw [show widV n = -1 from if_pos h]
    go_enter Tryd.func93, Tryd.ntmps93
    go_wp2
    go_ret
    exact ⟨rfl, rfl⟩
  · rw [show widV n = (Lib.bitLen n.toNat : Int) from if_neg h]
    obtain ⟨m, rfl⟩ := Int.eq_ofNat_of_zero_le (show 0 ≤ n by omega)
    have C : ∀ W : World, Calls Tryd.prog 119 #[U m] W fun e w' => e = .returned (.int .i64 (Lib.bitLen m)) ∧ W = w' := fun W => len_any m W (by omega)
    rw [Int.toNat_natCast]
    have HC := Lib.hid C
    clear C
    go_enter Tryd.func93, Tryd.ntmps93
    go_wp2_with (go_at_call 119; refine (HC.out _).mono ?_; rintro e w' ⟨rfl, rfl⟩)
    go_ret
    exact ⟨rfl, rfl⟩

set_option maxHeartbeats 400000 in
theorem specWid_any (n : Int) (w : World) (hn : n ≤ 9223372036854775807) :
    Calls Tryd.prog 89 #[.int .i64 n] w fun e w' => e = .returned (.int .i64 (widV n)) ∧ w = w' := by
  by_cases h : n < 0
  · rw [show widV n = -1 from if_pos h]
    go_enter Tryd.func89, Tryd.ntmps89
    go_wp2
    go_ret
    exact ⟨rfl, rfl⟩
  · rw [show widV n = (Lib.bitLen n.toNat : Int) from if_neg h]
    obtain ⟨m, rfl⟩ := Int.eq_ofNat_of_zero_le (show 0 ≤ n by omega)
    rw [Int.toNat_natCast]
    go_enter Tryd.func89, Tryd.ntmps89
    go_wp2
    go_loop [0, 3] (fun v q => ∃ j k : Nat, j ≤ m ∧ k ≤ 64 ∧ v = .int .i64 j ∧ q = .int .i64 k ∧ Hid (k + Lib.bitLen j = Lib.bitLen m)) (fun v _ => (intOf v).toNat)
    case atStart => exact ⟨m, 0, Nat.le_refl _, by omega, rfl, rfl, Lib.hid (Nat.zero_add _)⟩
    case round =>
      obtain ⟨j, k, hj, hk, rfl, rfl, hp⟩ := hrel
      rcases Nat.eq_zero_or_pos j with h0 | h0
      · subst h0
        go_wp2
        go_ret
        exact ⟨ret_int (by have h1 : Lib.bitLen 0 = 0 := rfl; have := hp.out; omega), rfl⟩
      · have hh := Lib.bitLen_half j (by omega) (by omega)
        have h64 := bitLen_64 m (by omega)
        have HP : Hid (k + 1 + Lib.bitLen (j / 2) = Lib.bitLen m) := Lib.hid (by have := hp.out; omega)
        have hk1 : k + 1 ≤ 64 := by have := hp.out; omega
        clear hh h64 hp
        go_wp2
        go_round
        case rel => exact ⟨j / 2, k + 1, by omega, hk1, by go_num, by go_num, HP⟩
        case measure => simp [intOf]; omega

end Go.Proofs.YtlbnngolcoefdaaDoor
