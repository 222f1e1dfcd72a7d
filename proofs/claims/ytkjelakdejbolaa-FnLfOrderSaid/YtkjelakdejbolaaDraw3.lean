/- The cursor opened, the draw of VarOf, and the laws' own pick. -/
import Derived.Test.YtkjelakdejbolaaDraw2
namespace Go.Proofs.Ytkjelakdejbolaa
open Go.RowKit
set_option maxRecDepth 100000

set_option maxHeartbeats 400000 in
theorem open_any (A : Option Addr) (c : Nat) (D : List Nat) (w : World) (hD : Lies w B8 A D) (hw : ∀ x ∈ D, x < 2 ^ 8) (hl : D.length ≤ 1048576) :
    Calls Try.prog 43 #[.slice A D.length c] w fun e w' => e = .returned (.pointer (some ⟨w.heap.size, 0, none⟩)) ∧ Cur w' w.heap.size A c D 0 ∧ Below w.heap.size w w' := by
  obtain ⟨q, hq⟩ : ∃ q, 89 + D.length % 1000 = q := ⟨_, rfl⟩
  have hqi : 89 + (D.length : Int) % 1000 = (q : Int) := by omega
  have hq5 : q < 65521 := by omega
  have HD := Lib.hid hD
  have HW := Lib.hid hw
  clear hD hw hq
  go_enter Try.func43, Try.ntmps43
  go_wp2
  go_ret
  have hb : Below w.heap.size w (w.alloc (.cells #[.slice A D.length c, .int .i64 0, .int .i64 q] 48)) := (Below.refl _ _).alloc (Nat.le_refl _) _
  refine ⟨rfl, ⟨HD.out.below hb, ?_, HW.out, hl, 0, q, Nat.le_refl _, hq5, Box.made _ _ _⟩, hb⟩
  intro b o hl0 hA e
  obtain ⟨b', o', _, hA', hb', _⟩ := HD.out.at_ hl0
  rw [hA] at hA'
  injection hA' with hA'
  injection hA' with e1 e2
  omega

/-- Some number that VarOf is tried at. -/
def DrewV (w : World) (e : Ending) (w' : World) : Prop := ∃ r : Int, e = .returned (.int .i64 r) ∧ (-9223372036854775808 ≤ r ∧ r ≤ 9223372036854775807) ∧ Below w.heap.size w w'

theorem grown_below2 {w w1 w2 : World} {g : Nat} (hb : Below w.heap.size w w1) (hg : w1.grownBy w2 (some g)) (hge : w.heap.size ≤ g) : Below w.heap.size w w2 :=
  ⟨hg.os.trans hb.os, hg.tape.trans hb.tape, hg.output.trans hb.output, Nat.le_trans hb.size hg.size, fun k hk => (hg.block k (Nat.lt_of_lt_of_le hk hb.size) (fun e => by have := Option.some.inj e; omega)).trans (hb.block k hk)⟩

set_option maxHeartbeats 400000 in
theorem big_any (A : Option Addr) (n c : Nat) (w : World) :
    Calls Try.prog 13 #[.slice A n c] w fun e w' => e = .returned (.bool (decide (1048576 < n))) ∧ w = w' := by
  go_enter Try.func13, Try.ntmps13
  go_wp2
  go_ret
  exact ⟨ret_bool (by rw [Bool.eq_iff_iff]; simp; omega), rfl⟩

/-- What the laws' pick returns. -/
def LPick (n : Int) (r : Nat) : Prop := (2 ≤ n → (r : Int) < n) ∧ (n < 2 → r = 0)

set_option maxHeartbeats 800000 in
theorem lpick_any (A : Option Addr) (c : Nat) (D : List Nat) (a : Nat) (n : Int) (w : World) (hD : Lies w B8 A D) (hw : ∀ x ∈ D, x < 2 ^ 8) (hl : D.length ≤ 1048576) (ha : a ≤ 1000) (hn2 : n ≤ 9223372036854775807) :
    Calls Try.prog 23 #[.slice A D.length c, .int .i64 a, .int .i64 n] w fun e w' => ∃ r : Nat, e = .returned (.int .i64 r) ∧ LPick n r ∧ w = w' := by
  by_cases h0 : D.length = 0
  · have t1 : ((D.length : Int) == 0) = true := by rw [beq_iff_eq]; omega
    have t1n : (D.length == 0) = true := by rw [beq_iff_eq]; omega
    clear hD hw
    rw [h0]
    go_enter Try.func23, Try.ntmps23
    go_wp2
    go_ret
    exact ⟨0, rfl, ⟨fun h => by omega, fun _ => rfl⟩, rfl⟩
  · have t1 : ((D.length : Int) == 0) = false := by rw [beq_eq_false_iff_ne]; omega
    have hnl : ¬ ((D.length : Int) = 0) := by omega
    by_cases hn : n < 2
    · have t2 : decide (n < 2) = true := by simpa using hn
      clear hD hw
      go_enter Try.func23, Try.ntmps23
      go_wp2
      go_ret
      exact ⟨0, rfl, ⟨fun h => by omega, fun _ => rfl⟩, rfl⟩
    · have t2 : decide (n < 2) = false := by simpa using hn
      obtain ⟨m, rfl⟩ := Int.eq_ofNat_of_zero_le (show 0 ≤ n by omega)
      have HW := Lib.hid hw
      have hdl : 0 < D.length := by omega
      clear hw h0
      go_enter Try.func23, Try.ntmps23
      go_wp2
      go_loop [7, 8] (fun q j => ∃ x k : Nat, k ≤ 3 ∧ x ≤ 1000 * 256 ^ k ∧ x ≤ 16777216000 ∧ q = .int .i64 x ∧ j = .int .i64 k) (fun _ j => 3 - (intOf j).toNat)
      case atStart => exact ⟨0, 0, by omega, by omega, by omega, rfl, rfl⟩
      case round =>
        obtain ⟨x, k, hk, hxk, hx9, rfl, rfl⟩ := hrel
        by_cases hlt : k < 3
        · obtain ⟨i, hi⟩ : ∃ i, (a + k) % D.length = i := ⟨_, rfl⟩
          have hil : i < D.length := by rw [← hi]; exact Nat.mod_lt _ hdl
          have hit : ((a : Int) + (k : Int)).tmod (D.length : Int) = (i : Int) := by
            rw [Int.tmod_eq_emod_of_nonneg (by omega), ← hi]
            simp
          have hie : ((a : Int) + (k : Int)) % (D.length : Int) = (i : Int) := by
            rw [← hi]
            simp
          obtain ⟨b, o, y, rfl, hbl, hy, hc⟩ := hD.at_ hil
          have hy8 := HW.out y (List.mem_of_getElem? hy)
          have hxn : 31 * x + y ≤ 1000 * 256 ^ (k + 1) ∧ 31 * x + y ≤ 16777216000 := by
            have h1 : 1 ≤ 256 ^ k := Nat.pow_pos (by decide)
            have h2 : 256 ^ (k + 1) ≤ 256 ^ 3 := Nat.pow_le_pow_right (by decide) (by omega)
            rw [Nat.pow_succ] at h2 ⊢
            omega
          clear hy hi hxk hD
          go_wp2
          go_round
          case rel => exact ⟨31 * x + y, k + 1, by omega, hxn.1, hxn.2, by go_num, by go_num⟩
          case measure => simp [intOf]; omega
        · obtain ⟨y, hy⟩ : ∃ y, x + a = y := ⟨_, rfl⟩
          have hyi : (x : Int) + (a : Int) = (y : Int) := by omega
          have hrem := rem_form y m (by omega)
          clear hxk hD hy
          go_wp2
          go_ret
          exact ⟨y % m, ret_int (by simp), ⟨fun _ => Int.ofNat_lt.2 (Nat.mod_lt _ (by omega)), fun h => by omega⟩, rfl⟩

end Go.Proofs.Ytkjelakdejbolaa
