/- Contracts of the laws' own marks and tests of lists of words and of bit vectors. -/
import Derived.Test.YtoehgcakfblblaaInts1
namespace Go.Proofs.Ytoehgcakfblblaa
open Go.RowKit
set_option maxRecDepth 100000

set_option maxHeartbeats 400000 in
theorem markU64 (A : Option Addr) (n c base : Nat) (k : Int) (xs : List Value) (w : World) (ho : w.ownsRow base 123 1 (.slice A n c) n xs) (hn : n ≤ 1048576) (hk0 : 0 ≤ k) (hk1 : k ≤ 1048576) :
    Calls Try.prog 92 #[.slice A n c, .int .i64 k] w fun e w' => e = .returned (.int .i64 (k + n)) ∧
      w'.ownsRow base 123 1 (.slice A n c) n ((List.range n).map fun (j : Nat) => Value.int .u64 (k + j)) ∧ w.grownBy w' (Value.slice A n c).ownBlock := by
  have hlen : xs.length = n := by have := ho.1; omega
  have HL := Lib.hid hlen
  have HO := Lib.hid ho
  clear hlen ho
  go_enter Try.func92, Try.ntmps92
  go_wp2
  go_loopw [1, 5] (fun q i wr => ∃ m : Nat, m ≤ n ∧ i = .int .i64 m ∧ q = .int .i64 (k + m) ∧ wr.ownsRow base 123 1 (.slice A n c) n (marked (Value.int .u64) k xs m) ∧ w.grownBy wr (Value.slice A n c).ownBlock) (fun _ i _ => n - (intOf i).toNat)
  case atStart => exact ⟨0, Nat.zero_le _, rfl, by simp, by rw [marked_zero]; exact HO.out, World.grownBy.refl _ _⟩
  case round =>
    obtain ⟨m, hm, rfl, rfl, hown, hg⟩ := hrel
    by_cases hlt : m < n
    · obtain ⟨g, cap, hv, _, _⟩ := hown.form (by omega)
      injection hv with hA _ hc
      subst hA hc
      obtain ⟨u, hu⟩ := marked_get (Value.int .u64) k xs m (by rw [HL.out]; exact hlt)
      have hd := (hown.cellAt m (by omega)).trans hu
      have hf := hown.frozenAt m
      have hst := hown.stored m (Value.int .u64 (k + m))
      have HS := Lib.hid hst.1
      have HG := Lib.hid (hg.trans hst.2)
      have HX := Lib.hid (marked_succ (Value.int .u64) k xs m (by rw [HL.out]; exact hlt))
      clear hown hg hu hst
      go_wp2
      go_roundw
      case rel => exact ⟨m + 1, by omega, by go_num, by go_num, by rw [HX.out]; exact HS.out, HG.out⟩
      case measure => simp [intOf]; omega
    · go_wp2
      go_ret
      have e : m = n := by omega
      subst e
      rw [marked_all _ _ _ _ HL.out] at hown
      exact ⟨rfl, hown, hg⟩

set_option maxHeartbeats 400000 in
theorem heldU64 (A : Option Addr) (n c : Nat) (k : Int) (w : World) (hL : Lies w (Value.int .u64) A ((List.range n).map fun (j : Nat) => k + (j : Int))) (hn : n ≤ 1048576) (hk0 : 0 ≤ k) (hk1 : k ≤ 1048576) :
    Calls Try.prog 93 #[.slice A n c, .int .i64 k] w fun e w' => e = .returned (.int .i64 (k + n)) ∧ w = w' := by
  go_enter Try.func93, Try.ntmps93
  go_wp2
  go_loop [1, 5] (fun q i => ∃ m : Nat, m ≤ n ∧ i = .int .i64 m ∧ q = .int .i64 (k + m)) (fun _ i => n - (intOf i).toNat)
  case atStart => exact ⟨0, Nat.zero_le _, rfl, by simp⟩
  case round =>
    obtain ⟨m, hm, rfl, rfl⟩ := hrel
    by_cases hlt : m < n
    · obtain ⟨b, o, x, rfl, _, hx, hc⟩ := hL.at_ (i := m) (by simp; exact hlt)
      have hx' : x = k + (m : Int) := by simp [hlt] at hx; exact hx.symm
      subst hx'
      clear hL hx
      go_wp2
      go_round
      case rel => exact ⟨m + 1, by omega, by go_num, by go_num⟩
      case measure => simp [intOf]; omega
    · go_wp2
      go_ret
      have e : m = n := by omega
      subst e
      exact ⟨rfl, rfl⟩

theorem lies_ints {w : World} {A : Option Addr} {c n : Nat} {base : Nat} {e : TypeId} {f : Int → Value} {k : Int} (h : w.ownsRow base e 1 (.slice A n c) n ((List.range n).map fun (j : Nat) => f (k + j))) :
    Lies w f A ((List.range n).map fun (j : Nat) => k + (j : Int)) := by
  refine Lies.of_own (n := n) (c := c) (base := base) (e := e) ?_
  rw [List.map_map]
  exact h

set_option maxHeartbeats 400000 in
theorem markBits_any (N : Int) (A : Option Addr) (n c base : Nat) (k : Int) (xs : List Value) (w : World) (ho : w.ownsRow base 123 1 (.slice A n c) n xs) (hn : n ≤ 1048576) (hk0 : 0 ≤ k) (hk1 : k ≤ 1048576) :
    Calls Try.prog 46 #[.agg #[.int .i64 N, .slice A n c], .int .i64 k] w fun e w' => e = .returned (.int .i64 (k + n)) ∧
      w'.ownsRow base 123 1 (.slice A n c) n ((List.range n).map fun (j : Nat) => Value.int .u64 (k + j)) ∧ w.grownBy w' (Value.slice A n c).ownBlock := by
  have HO := Lib.hid ho
  clear ho
  go_enter Try.func46, Try.ntmps46
  go_wp2_with fail
  refine (markU64 A n c base k xs _ (HO.out.alloc _) hn hk0 hk1).mono ?_
  rintro e w1 ⟨rfl, h1, h2⟩
  have H1 := Lib.hid h1
  have H2 := Lib.hid h2
  clear h1 h2
  go_wp2
  go_ret
  exact ⟨rfl, H1.out, (World.grownBy_alloc _ _ _).trans H2.out⟩

set_option maxHeartbeats 400000 in
theorem heldBits_any (N : Int) (A : Option Addr) (n c : Nat) (k : Int) (w : World) (hL : Lies w (Value.int .u64) A ((List.range n).map fun (j : Nat) => k + (j : Int))) (hn : n ≤ 1048576) (hk0 : 0 ≤ k) (hk1 : k ≤ 1048576) :
    Calls Try.prog 47 #[.agg #[.int .i64 N, .slice A n c], .int .i64 k] w fun e w' => e = .returned (.int .i64 (k + n)) ∧ Below w.heap.size w w' := by
  have HL := Lib.hid hL
  clear hL
  have hpos : ¬ (k + (n : Int) < 0) := by omega
  go_enter Try.func47, Try.ntmps47
  go_wp2_with fail
  refine (heldU64 A n c k _ (HL.out.below (by go_grown)) hn hk0 hk1).mono ?_
  rintro e w1 ⟨rfl, rfl⟩
  go_wp2
  go_ret
  exact ⟨rfl, by go_grown⟩

end Go.Proofs.Ytoehgcakfblblaa
