/- SparseAt: the specification's. -/
import Derived.Test.YtanllfidbhjboaaDoorSp16
namespace Go.Proofs.YtanllfidbhjboaaDoor
open Go.RowKit
set_option maxRecDepth 100000

/-- What SparseAt is to return. -/
def satV (V N P M K : Int) (Ws : List Nat) (H : Int) (Vs : List Nat) (k : Int) : Int := if 0 ≤ k ∧ k < ((slV V N P M K Ws H Vs).length : Int) then ((slV V N P M K Ws H Vs)[k.toNat]?).getD 0 else -1

set_option maxHeartbeats 800000 in
theorem specSparseAt_any (V N P M K H : Int) (A A' : Option Addr) (c c' : Nat) (Ws Vs : List Nat) (k : Int) (w : World) (hL : Lies w U A Ws) (hL' : Lies w U A' Vs) (hw : ∀ x ∈ Ws, x < 2 ^ 64) (hw' : ∀ x ∈ Vs, x < 2 ^ 64) :
    Calls Tryd.prog 23 #[SP V N P M K (.slice A Ws.length c) H (.slice A' Vs.length c'), .int .i64 k] w fun e w' => e = .returned (.int .i64 (satV V N P M K Ws H Vs k)) ∧ Below w.heap.size w w' := by
  have HL := Lib.hid hL
  have HL' := Lib.hid hL'
  have HW := Lib.hid hw
  have HW' := Lib.hid hw'
  have HV : Hid (satV V N P M K Ws H Vs k = if 0 ≤ k ∧ k < ((slV V N P M K Ws H Vs).length : Int) then ((slV V N P M K Ws H Vs)[k.toNat]?).getD 0 else -1) := Lib.hid rfl
  have hBl := slV_len V N P M K Ws H Vs
  clear hL hL' hw hw'
  go_enter Tryd.func23, Tryd.ntmps23
  go_wp2_with fail
  have sc := (Scene.start w).box 37 (SPC V N P M K (.slice A Ws.length c) H (.slice A' Vs.length c'))
  generalize w.alloc (Obj.cells (SPC V N P M K (.slice A Ws.length c) H (.slice A' Vs.length c')) 37) = w1 at *
  refine (specSparseList_any V N P M K H A A' c c' Ws Vs _ (sc.liesOld HL.out) (sc.liesOld HL'.out) HW.out HW'.out).mono ?_
  rintro e w3 ⟨Al, cl, rfl, ho, hb3⟩
  have HLi := Lib.hid (Lies.of_own ho)
  have HB := Lib.hid (below_then sc.below hb3)
  clear sc ho hb3
  generalize slV V N P M K Ws H Vs = B at *
  by_cases h0 : k < 0
  · have t0 : decide (k < 0) = true := by simpa using h0
    rw [if_neg (by omega)] at HV
    go_wp2
    go_ret
    exact ⟨ret_int HV.out.symm, HB.out⟩
  · have t0 : decide (k < 0) = false := by simpa using h0
    obtain ⟨j, rfl⟩ := Int.eq_ofNat_of_zero_le (show 0 ≤ k by omega)
    by_cases h1 : j < B.length
    · obtain ⟨b, o, y, hA, hbl, hy, hc⟩ := HLi.out.at_ h1
      subst hA
      rw [if_pos (by omega), Int.toNat_natCast, hy, Option.getD_some] at HV
      have t1 : decide ((B.length : Int) ≤ (j : Int)) = false := by simp; omega
      have t1n : decide (B.length ≤ j) = false := by simp; omega
      clear hy
      go_wp2
      go_ret
      exact ⟨ret_int HV.out.symm, HB.out⟩
    · have t1 : decide ((B.length : Int) ≤ (j : Int)) = true := by simp; omega
      have t1n : decide (B.length ≤ j) = true := by simp; omega
      rw [if_neg (by omega)] at HV
      go_wp2
      go_ret
      exact ⟨ret_int HV.out.symm, HB.out⟩

end Go.Proofs.YtanllfidbhjboaaDoor
