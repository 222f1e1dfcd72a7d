/- The laws' marking of numbers, from a greater first mark on (after Ints1). -/
import Derived.Test.YtoehgcakfblblaaInts1
namespace Go.Proofs.Ytoehgcakfblblaa
open Go.RowKit
set_option maxRecDepth 100000

set_option maxHeartbeats 400000 in
theorem markIntw (A : Option Addr) (n c base : Nat) (k : Int) (xs : List Value) (w : World) (ho : w.ownsRow base 3 1 (.slice A n c) n xs) (hn : n ≤ 1048576) (hk0 : 0 ≤ k) (hk1 : k ≤ 4194304) :
    Calls Try.prog 25 #[.slice A n c, .int .i64 k] w fun e w' => e = .returned (.int .i64 (k + n)) ∧
      w'.ownsRow base 3 1 (.slice A n c) n ((List.range n).map fun (j : Nat) => I (k + j)) ∧ w.grownBy w' (Value.slice A n c).ownBlock := by
  have hlen : xs.length = n := by have := ho.1; omega
  have HL := Lib.hid hlen
  have HO := Lib.hid ho
  clear hlen ho
  go_enter Try.func25, Try.ntmps25
  go_wp2
  go_loopw [1, 5] (fun q i wr => ∃ m : Nat, m ≤ n ∧ i = .int .i64 m ∧ q = .int .i64 (k + m) ∧ wr.ownsRow base 3 1 (.slice A n c) n (marked I k xs m) ∧ w.grownBy wr (Value.slice A n c).ownBlock) (fun _ i _ => n - (intOf i).toNat)
  case atStart => exact ⟨0, Nat.zero_le _, rfl, by simp, by rw [marked_zero]; exact HO.out, World.grownBy.refl _ _⟩
  case round =>
    obtain ⟨m, hm, rfl, rfl, hown, hg⟩ := hrel
    by_cases hlt : m < n
    · obtain ⟨g, cap, hv, _, _⟩ := hown.form (by omega)
      injection hv with hA _ hc
      subst hA hc
      obtain ⟨u, hu⟩ := marked_get I k xs m (by rw [HL.out]; exact hlt)
      have hd := (hown.cellAt m (by omega)).trans hu
      have hf := hown.frozenAt m
      have hst := hown.stored m (I (k + m))
      have HS := Lib.hid hst.1
      have HG := Lib.hid (hg.trans hst.2)
      have HX := Lib.hid (marked_succ I k xs m (by rw [HL.out]; exact hlt))
      clear hown hg hu hst
      go_wp2
      go_roundw
      case rel => exact ⟨m + 1, by omega, by go_num, by go_num, by rw [HX.out]; exact HS.out, HG.out⟩
      case measure => simp [intOf]; omega
    · go_wp2
      go_ret
      have e : m = n := by omega
      subst e
      rw [marked_all _ _ _ _ HL.out] at hown
      exact ⟨rfl, hown, hg⟩

end Go.Proofs.Ytoehgcakfblblaa
