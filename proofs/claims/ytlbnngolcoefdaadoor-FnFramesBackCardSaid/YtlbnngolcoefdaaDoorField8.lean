/- The program's field, at bytes: the number in a row of bits. -/
import Derived.Test.YtlbnngolcoefdaaDoorWid2
import Derived.Test.YtlbnngolcoefdaaDoorPackMath
import Derived.Test.YtlbnngolcoefdaaDoorDraw1
import Derived.Test.YtlbnngolcoefdaaDoorField64
namespace Go.Proofs.YtlbnngolcoefdaaDoor
open Go.RowKit
set_option maxRecDepth 100000

theorem byte_form (x r : Nat) (hx : x < 2 ^ 8) : IntKind.u64.wrap ((x : Int) / 2 ^ r) = (x : Int) / 2 ^ r := by
  have e : (x : Int) / 2 ^ r = ((x / 2 ^ r : Nat) : Int) := by simp
  have h : x / 2 ^ r ≤ x := Nat.div_le_self _ _
  rw [e]
  generalize x / 2 ^ r = y at *
  exact IntWalk.u64_in _ (by omega)
theorem run_shr_u8 {P : Program} (t : TypeId) (x r : Nat) (hr : r ≤ 8) (W : World) : (binOp .shr t (.int .u8 (x : Int)) (.int .i64 (r : Int))).run P W = .ok (.int .u8 ((x / 2 ^ r : Nat) : Int)) W := by
  have h : min r 8 = r := by omega
  simp [binOp, Op.shift, IntKind.bits, h]

set_option maxHeartbeats 400000 in
theorem fieldB_any (A : Option Addr) (n c : Nat) (L : List Nat) (V a wd : Nat) (w : World) (hL : Lies w B8 A L) (Hn : Hid (L.length = n)) (hV : ∀ (j : Nat) (x : Nat), L[j]? = some x → x = V / 2 ^ (8 * j) % 2 ^ 8) (hwd : wd ≤ 32) (hfit : a + wd ≤ 8 * n) (hn : n ≤ 17592186044416) :
    Calls Tryd.prog 140 #[.slice A n c, .int .i64 a, .int .i64 wd] w fun e w' => e = .returned (.int .i64 (V / 2 ^ a % 2 ^ wd : Nat)) ∧ Drawn w w' := by
  have C : ∀ W : World, Calls Tryd.prog 128 #[.int .u64 255] W fun e w' => e = .returned (.int .i64 8) ∧ W = w' := fun W => len64_int 255 W (by omega) (by omega)
  have HC := Lib.hid C
  have HV := Lib.hid hV
  clear C hV
  go_enter Tryd.func140, Tryd.ntmps140
  go_wp2_with (go_at_call 128; refine (HC.out _).mono ?_; rintro e w' ⟨rfl, rfl⟩)
  go_loopw [8, 9] (fun q g wr => ∃ m k : Nat, k ≤ 96 ∧ q = .int .u64 m ∧ g = .int .i64 k ∧ Hid (m = V / 2 ^ a % 2 ^ (min k 64)) ∧ Drawn w wr) (fun _ g _ => wd - (intOf g).toNat)
  case atStart => exact ⟨0, 0, by omega, rfl, rfl, Lib.hid (by simp [Nat.mod_one]), Drawn.refl _⟩
  case round =>
    obtain ⟨m, k, hk96, rfl, rfl, hm, z, rfl⟩ := hrel
    have hm64 : m < 2 ^ 64 := by
      rw [hm.out]
      exact Nat.lt_of_lt_of_le (Nat.mod_lt _ (Nat.two_pow_pos _)) (Nat.pow_le_pow_right (by omega) (by omega))
    by_cases hlt : k < wd
    · have hqn : (a + k) / 8 < n := by omega
      obtain ⟨r, hr⟩ : ∃ r, (a + k) % 8 = r := ⟨_, rfl⟩
      obtain ⟨b, o, x, rfl, hbl, hx, hc⟩ := hL.at_ (i := (a + k) / 8) (by rw [Hn.out]; exact hqn)
      have hxv := HV.out _ x hx
      have hx64 : x < 2 ^ 8 := by rw [hxv]; exact Nat.mod_lt _ (Nat.two_pow_pos _)
      have e2 : ((a : Int) + (k : Int)).tmod 8 = (r : Int) := by rw [IntWalk.rem_in _ _ (by omega)]; omega
      have hrS : r < 8 := by omega
      obtain ⟨u, hu⟩ : ∃ u, m ||| x / 2 ^ r * 2 ^ k % 2 ^ 64 = u := ⟨_, rfl⟩
      have HF : Hid (bits .or .u64 (m : Int) (IntKind.u64.wrap (IntKind.u64.wrap ((x : Int) / 2 ^ r) * 2 ^ k)) = (u : Int)) := Lib.hid (by rw [byte_form x r hx64, ← hu]; exact field_form m x r k hm64 (Nat.lt_of_lt_of_le hx64 (by decide)))
      have s1 := fun W => run_shr_u8 (P := Tryd.prog) 5 x r (by omega) W
      have HN : Hid (u = V / 2 ^ a % 2 ^ (min (k + (8 - r)) 64)) := Lib.hid (by
        have h := field_round V a k 8 x m (by decide) hxv hm.out
        rw [hr, hu] at h
        exact h)
      clear hr hu hx hxv hL HV HC hm hbl
      go_wp2
      go_quiet (fail)
      go_wp2
      go_roundw
      case rel => exact ⟨u, k + (8 - r), by omega, congrArg (Value.int .u64) HF.out, by go_num, HN, ⟨_, rfl⟩⟩
      case measure => simp [intOf]; omega
    · have HU : Hid (wrap64 (bits .and .u64 (m : Int) (IntKind.u64.wrap (IntKind.u64.wrap (2 ^ wd) - 1))) = ((V / 2 ^ a % 2 ^ wd : Nat) : Int)) := Lib.hid (by
        rw [mask_form m wd hm64 hwd, hm.out]
        exact congrArg Nat.cast (field_end V a k wd (by omega) (by omega)))
      clear hL HV HC hm
      go_wp2
      go_ret
      exact ⟨ret_int HU.out, ⟨_, rfl⟩⟩

end Go.Proofs.YtlbnngolcoefdaaDoor
