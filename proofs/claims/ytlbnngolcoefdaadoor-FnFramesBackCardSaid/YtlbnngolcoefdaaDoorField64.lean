/- The program's field, at words: the number in a row of bits. -/
import Derived.Test.YtlbnngolcoefdaaDoorWid2
import Derived.Test.YtlbnngolcoefdaaDoorPackMath
import Derived.Test.YtlbnngolcoefdaaDoorDraw1
namespace Go.Proofs.YtlbnngolcoefdaaDoor
open Go.RowKit
set_option maxRecDepth 100000

/-- How the walk spells the round's or, and the last mask. -/
theorem field_form (m x r k : Nat) (hm : m < 2 ^ 64) (_hx : x < 2 ^ 64) : bits .or .u64 (m : Int) (IntKind.u64.wrap ((x : Int) / 2 ^ r * 2 ^ k)) = ((m ||| x / 2 ^ r * 2 ^ k % 2 ^ 64 : Nat) : Int) := by
  have e : (x : Int) / 2 ^ r * 2 ^ k = ((x / 2 ^ r * 2 ^ k : Nat) : Int) := by simp
  have hw : IntKind.u64.wrap ((x : Int) / 2 ^ r * 2 ^ k) = ((x / 2 ^ r * 2 ^ k % 2 ^ 64 : Nat) : Int) := by rw [e, IntKind.wrap_u64]; omega
  rw [hw, u64_or_nat m _ hm (Nat.mod_lt _ (by decide))]
theorem mask_form (m wd : Nat) (hm : m < 2 ^ 64) (hwd : wd ≤ 32) : wrap64 (bits .and .u64 (m : Int) (IntKind.u64.wrap (IntKind.u64.wrap (2 ^ wd) - 1))) = ((m % 2 ^ wd : Nat) : Int) := by
  have hp : 2 ^ wd ≤ 2 ^ 32 := Nat.pow_le_pow_right (by omega) hwd
  have hp0 := Nat.two_pow_pos wd
  have e1 : IntKind.u64.wrap ((2 : Int) ^ wd) = ((2 ^ wd : Nat) : Int) := by
    rw [show (2 : Int) ^ wd = ((2 ^ wd : Nat) : Int) by simp]
    exact IntWalk.u64_in _ (by omega)
  have e2 : IntKind.u64.wrap (((2 ^ wd : Nat) : Int) - 1) = ((2 ^ wd - 1 : Nat) : Int) := by
    rw [show ((2 ^ wd : Nat) : Int) - 1 = ((2 ^ wd - 1 : Nat) : Int) by omega]
    exact IntWalk.u64_in _ (by omega)
  have h3 : m % 2 ^ wd < 2 ^ wd := Nat.mod_lt _ hp0
  rw [e1, e2, u64_and_nat m _ hm (by omega), Nat.and_two_pow_sub_one_eq_mod]
  exact IntWalk.wrap64_in _ (by omega)

set_option maxHeartbeats 400000 in
theorem fieldW_any (A : Option Addr) (n c : Nat) (L : List Nat) (V a wd : Nat) (w : World) (hL : Lies w U A L) (Hn : Hid (L.length = n)) (hV : ∀ (j : Nat) (x : Nat), L[j]? = some x → x = V / 2 ^ (64 * j) % 2 ^ 64) (hwd : wd ≤ 32) (hfit : a + wd ≤ 64 * n) (hn : n ≤ 17592186044416) :
    Calls Tryd.prog 104 #[.slice A n c, .int .i64 a, .int .i64 wd] w fun e w' => e = .returned (.int .i64 (V / 2 ^ a % 2 ^ wd : Nat)) ∧ Drawn w w' := by
  have C : ∀ W : World, Calls Tryd.prog 128 #[.int .u64 18446744073709551615] W fun e w' => e = .returned (.int .i64 64) ∧ W = w' := fun W => len64_int 18446744073709551615 W (by omega) (by omega)
  have HC := Lib.hid C
  have HV := Lib.hid hV
  clear C hV
  go_enter Tryd.func104, Tryd.ntmps104
  go_wp2_with (go_at_call 128; refine (HC.out _).mono ?_; rintro e w' ⟨rfl, rfl⟩)
  go_loopw [8, 9] (fun q g wr => ∃ m k : Nat, k ≤ 96 ∧ q = .int .u64 m ∧ g = .int .i64 k ∧ Hid (m = V / 2 ^ a % 2 ^ (min k 64)) ∧ Drawn w wr) (fun _ g _ => wd - (intOf g).toNat)
  case atStart => exact ⟨0, 0, by omega, rfl, rfl, Lib.hid (by simp [Nat.mod_one]), Drawn.refl _⟩
  case round =>
    obtain ⟨m, k, hk96, rfl, rfl, hm, z, rfl⟩ := hrel
    have hm64 : m < 2 ^ 64 := by
      rw [hm.out]
      exact Nat.lt_of_lt_of_le (Nat.mod_lt _ (Nat.two_pow_pos _)) (Nat.pow_le_pow_right (by omega) (by omega))
    by_cases hlt : k < wd
    · have hqn : (a + k) / 64 < n := by omega
      obtain ⟨r, hr⟩ : ∃ r, (a + k) % 64 = r := ⟨_, rfl⟩
      obtain ⟨b, o, x, rfl, hbl, hx, hc⟩ := hL.at_ (i := (a + k) / 64) (by rw [Hn.out]; exact hqn)
      have hxv := HV.out _ x hx
      have hx64 : x < 2 ^ 64 := by rw [hxv]; exact Nat.mod_lt _ (Nat.two_pow_pos _)
      have e2 : ((a : Int) + (k : Int)).tmod 64 = (r : Int) := by rw [IntWalk.rem_in _ _ (by omega)]; omega
      have hrS : r < 64 := by omega
      obtain ⟨u, hu⟩ : ∃ u, m ||| x / 2 ^ r * 2 ^ k % 2 ^ 64 = u := ⟨_, rfl⟩
      have HF : Hid (bits .or .u64 (m : Int) (IntKind.u64.wrap ((x : Int) / 2 ^ r * 2 ^ k)) = (u : Int)) := Lib.hid (by rw [← hu]; exact field_form m x r k hm64 (Nat.lt_of_lt_of_le hx64 (by decide)))
      have s1 := fun W => run_shr_u64 (P := Tryd.prog) 113 x r (by omega) W
      have HN : Hid (u = V / 2 ^ a % 2 ^ (min (k + (64 - r)) 64)) := Lib.hid (by
        have h := field_round V a k 64 x m (by decide) hxv hm.out
        rw [hr, hu] at h
        exact h)
      clear hr hu hx hxv hL HV HC hm hbl
      go_wp2
      go_quiet (fail)
      go_wp2
      go_roundw
      case rel => exact ⟨u, k + (64 - r), by omega, congrArg (Value.int .u64) HF.out, by go_num, HN, ⟨_, rfl⟩⟩
      case measure => simp [intOf]; omega
    · have HU : Hid (wrap64 (bits .and .u64 (m : Int) (IntKind.u64.wrap (IntKind.u64.wrap (2 ^ wd) - 1))) = ((V / 2 ^ a % 2 ^ wd : Nat) : Int)) := Lib.hid (by
        rw [mask_form m wd hm64 hwd, hm.out]
        exact congrArg Nat.cast (field_end V a k wd (by omega) (by omega)))
      clear hL HV HC hm
      go_wp2
      go_ret
      exact ⟨ret_int HU.out, ⟨_, rfl⟩⟩

end Go.Proofs.YtlbnngolcoefdaaDoor
