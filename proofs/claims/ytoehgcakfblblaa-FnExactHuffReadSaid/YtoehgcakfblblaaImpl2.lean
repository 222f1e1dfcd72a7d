/- The program's BitsOk, the last test. -/
import Derived.Test.YtoehgcakfblblaaImpl1
namespace Go.Proofs.Ytoehgcakfblblaa
open Go.RowKit
set_option maxRecDepth 100000

set_option maxHeartbeats 400000 in
theorem implOk_whole (n : Nat) (A : Option Addr) (m c : Nat) (w : World) (hn : n ≤ 5000) (hm : Hid ((n + 63) / 64 = m)) (h0 : n % 64 = 0) :
    Calls Try.prog 75 #[.agg #[.int .i64 n, .slice A m c]] w fun e w' => e = .returned (.bool true) ∧ Below w.heap.size w w' := by
  have hd : decide ((n : Int) < 0) = false := by simp
  have hd2 : decide (5000 < (n : Int)) = false := by simp; omega
  have C : ∀ W : World, Calls Try.prog 109 #[.int .i64 n] W fun e w' => e = .returned (.int .i64 m) ∧ w' = W := fun W =>
    (wordsFor_any n W hn).mono fun e w' h => ⟨by rw [h.1, hm.out], h.2.symm⟩
  have HC := Lib.hid C
  have h3 : ((n : Int).tmod 64 == 0) = true := by rw [IntWalk.rem_in _ _ (by omega), beq_iff_eq]; omega
  have h4 : ((n : Int) % 64 == 0) = true := by rw [beq_iff_eq]; omega
  clear C h0
  go_enter Try.func75, Try.ntmps75
  go_wp2
  go_quiet ((go_at_call 109; exact Calls.quiet_of_same (HC.out _)))
  go_wp2
  go_quiet (fail)
  go_wp2
  go_ret
  exact ⟨rfl, below_dN (below_dN (by go_grown) _) _⟩

set_option maxHeartbeats 400000 in
theorem implOk_rest (n : Nat) (A : Option Addr) (m c : Nat) (L : List Nat) (w : World) (hL : Lies w U A L) (hl : Hid (L.length = m)) (hn : n ≤ 5000) (hm : Hid ((n + 63) / 64 = m)) (h0 : n % 64 ≠ 0) (hw : ∀ x ∈ L, x < 2 ^ 64) :
    Calls Try.prog 75 #[.agg #[.int .i64 n, .slice A m c]] w fun e w' => e = .returned (.bool (tailB n L)) ∧ Below w.heap.size w w' := by
  have hd : decide ((n : Int) < 0) = false := by simp
  have hd2 : decide (5000 < (n : Int)) = false := by simp; omega
  have C : ∀ W : World, Calls Try.prog 109 #[.int .i64 n] W fun e w' => e = .returned (.int .i64 m) ∧ w' = W := fun W =>
    (wordsFor_any n W hn).mono fun e w' h => ⟨by rw [h.1, hm.out], h.2.symm⟩
  have HC := Lib.hid C
  have h3 : ((n : Int).tmod 64 == 0) = false := by rw [IntWalk.rem_in _ _ (by omega), beq_eq_false_iff_ne]; omega
  have h4 : ((n : Int) % 64 == 0) = false := by rw [beq_eq_false_iff_ne]; omega
  obtain ⟨q, hq⟩ : ∃ q, n / 64 = q := ⟨_, rfl⟩
  obtain ⟨r, hr⟩ : ∃ r, n % 64 = r := ⟨_, rfl⟩
  have hqm : q < m := by have := hm.out; omega
  obtain ⟨b, o, x, rfl, hbl, hx, hc⟩ := hL.at_ (i := q) (by rw [hl.out]; exact hqm)
  have hx64 := hw x (List.mem_of_getElem? hx)
  have e1 : IntKind.i64.wrap ((n : Int) / 64) = (q : Int) := by rw [show (n : Int) / 64 = (q : Int) by omega]; exact IntWalk.i64_in _ (by omega)
  have e2 : (n : Int).tmod 64 = (r : Int) := by rw [IntWalk.rem_in _ _ (by omega)]; omega
  have HT : Hid (tailB n L = (x / 2 ^ r == 0)) := Lib.hid (by
    unfold tailB
    rw [hq, hr, List.getD_eq_getElem?_getD, hx, Option.getD_some]
    simp; omega)
  have HX := Lib.hid hx
  have hr64 : r < 64 := by omega
  have h5 : ((r : Int) == 0) = false := by rw [beq_eq_false_iff_ne]; omega
  have hs := fun W => run_shr_u64 (P := Try.prog) 123 x r (by omega) W
  clear C h0 hq hr hx hL hw
  go_enter Try.func75, Try.ntmps75
  go_wp2
  go_quiet ((go_at_call 109; exact Calls.quiet_of_same (HC.out _)))
  go_wp2
  go_quiet (fail)
  go_wp2
  go_ret
  refine ⟨ret_bool ?_, below_dN (below_dN (by go_grown) _) _⟩
  rw [HT.out, Bool.eq_iff_iff, beq_iff_eq, beq_iff_eq]
  have e : ((x : Int) / 2 ^ r) = ((x / 2 ^ r : Nat) : Int) := by simp
  rw [e]
  omega

theorem implOk_any (N : Int) (A : Option Addr) (c : Nat) (L : List Nat) (w : World) (hL : Lies w U A L) (hw : ∀ x ∈ L, x < 2 ^ 64) :
    Calls Try.prog 75 #[.agg #[.int .i64 N, .slice A L.length c]] w fun e w' => e = .returned (.bool (okB N L)) ∧ Below w.heap.size w w' := by
  unfold okB
  by_cases h : 0 ≤ N ∧ N ≤ 5000 ∧ L.length = (N.toNat + 63) / 64
  · obtain ⟨n, rfl⟩ := Int.eq_ofNat_of_zero_le h.1
    rw [decide_eq_true h, Bool.true_and]
    by_cases h0 : n % 64 = 0
    · have e : tailB n L = true := by unfold tailB; rw [h0]; rfl
      have c1 := implOk_whole n A L.length c w (by omega) (Lib.hid h.2.2.symm) h0
      rw [show ((n : Int)).toNat = n from rfl, e]
      exact c1
    · exact implOk_rest n A L.length c L w hL (Lib.hid rfl) (by omega) (Lib.hid h.2.2.symm) h0 hw
  · rw [decide_eq_false h, Bool.false_and]
    by_cases h0 : N < 0
    · exact implOk_neg N A _ c w h0
    · by_cases h1 : 5000 < N
      · exact implOk_big N A _ c w h1
      · obtain ⟨n, rfl⟩ := Int.eq_ofNat_of_zero_le (show 0 ≤ N by omega)
        exact implOk_len n A _ c w (by omega) (fun e => h ⟨by omega, by omega, by rw [e]; rfl⟩)

end Go.Proofs.Ytoehgcakfblblaa
