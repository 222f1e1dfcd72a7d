/- The specification's BitAt. -/
import Derived.Test.YtoiiiidijpenfaaSpec4
import Derived.Test.YtoiiiidijpenfaaBitMath2
import Derived.Test.YtoiiiidijpenfaaMem2
namespace Go.Proofs.Ytoiiiidijpenfaa
open Go.RowKit

set_option maxHeartbeats 400000 in
theorem specAt_bad (N : Int) (A : Option Addr) (c : Nat) (L : List Nat) (i : Int) (w : World) (hL : Lies w U A L) (hw : ∀ x ∈ L, x < 2 ^ 64) (hok : okB N L = false) :
    Calls Try.prog 35 #[.agg #[.int .i64 N, .slice A L.length c], .int .i64 i] w fun e w' => e = .returned (.int .i64 (-1)) ∧ Below w.heap.size w w' := by
  have HW := Lib.hid hw
  clear hw
  go_enter Try.func35, Try.ntmps35
  go_wp2_with fail
  refine (specOk_any N A c L _ (hL.below (by go_grown)) HW.out).mono ?_
  rintro e w1 ⟨rfl, hb⟩
  rw [hok]
  have HB := Lib.hid hb
  clear hb hL hok
  go_wp2
  go_ret
  exact ⟨rfl, below_then (by go_grown) HB.out⟩

set_option maxHeartbeats 400000 in
theorem specAt_out (N : Int) (A : Option Addr) (c : Nat) (L : List Nat) (i : Int) (w : World) (hL : Lies w U A L) (hw : ∀ x ∈ L, x < 2 ^ 64) (hok : okB N L = true) (hi : i < 0 ∨ N ≤ i) :
    Calls Try.prog 35 #[.agg #[.int .i64 N, .slice A L.length c], .int .i64 i] w fun e w' => e = .returned (.int .i64 (-1)) ∧ Below w.heap.size w w' := by
  have HW := Lib.hid hw
  clear hw
  by_cases h0 : i < 0
  · have d0 : decide (i < 0) = true := by simpa using h0
    go_enter Try.func35, Try.ntmps35
    go_wp2_with fail
    refine (specOk_any N A c L _ (hL.below (by go_grown)) HW.out).mono ?_
    rintro e w1 ⟨rfl, hb⟩
    rw [hok]
    have HB := Lib.hid hb
    clear hb hL hok hi
    go_wp2
    go_ret
    exact ⟨rfl, below_then (by go_grown) HB.out⟩
  · have d0 : decide (i < 0) = false := by simpa using h0
    have hn : N ≤ i := by omega
    have d1 : decide (N ≤ i) = true := by simpa using hn
    go_enter Try.func35, Try.ntmps35
    go_wp2_with fail
    have hx0 := Box.made w 26 #[.int .i64 N, .slice A L.length c]
    refine (specOk_any N A c L _ (hL.below (by go_grown)) HW.out).mono ?_
    rintro e w1 ⟨rfl, hb⟩
    rw [hok]
    have f0 := (hx0.below hb hx0.lt).cell 0
    simp only [List.getElem?_toArray, List.getElem?_cons_zero, List.getElem?_cons_succ] at f0
    have HB := Lib.hid hb
    clear hb hL hok hi hx0
    go_wp2
    go_ret
    exact ⟨rfl, below_then (by go_grown) HB.out⟩

set_option maxHeartbeats 400000 in
theorem specAt_in (n : Nat) (A : Option Addr) (c : Nat) (L : List Nat) (i : Nat) (w : World) (hL : Lies w U A L) (hw : ∀ x ∈ L, x < 2 ^ 64) (hok : okB n L = true) (hi : i < n) (hn : n ≤ 5000) (hl : Hid (L.length = (n + 63) / 64)) :
    Calls Try.prog 35 #[.agg #[.int .i64 n, .slice A L.length c], .int .i64 i] w fun e w' => e = .returned (.int .i64 (bitN L i)) ∧ Below w.heap.size w w' := by
  have HW := Lib.hid hw
  clear hw
  have d0 : decide ((i : Int) < 0) = false := by simp
  have d1 : decide ((n : Int) ≤ (i : Int)) = false := by simp; omega
  go_enter Try.func35, Try.ntmps35
  go_wp2_with fail
  have hx0 := Box.made w 26 #[.int .i64 n, .slice A L.length c]
  have hb0 : Below w.heap.size w (w.alloc (.cells #[.int .i64 n, .slice A L.length c] 26)) := by go_grown
  have hL0 := hL.below hb0
  refine (specOk_any n A c L _ hL0 HW.out).mono ?_
  rintro e w1 ⟨rfl, hb⟩
  rw [hok]
  have hx1 := hx0.below hb hx0.lt
  have hL1 := hL0.below hb
  have hb1 := below_then hb0 hb
  have f0 := hx1.cell 0
  have f1 := hx1.cell 1
  simp only [List.getElem?_toArray, List.getElem?_cons_zero, List.getElem?_cons_succ] at f0 f1
  clear hb hL hok hx0 hx1 hb0 hL0
  go_wp2_with fail
  refine (list_any n A c L _ hL1 (by rw [hl.out]; exact Nat.le_refl _) hn (by rw [hl.out]; omega) HW.out).mono ?_
  rintro e w2 ⟨v, rfl, hown, hb⟩
  obtain ⟨A2, c2, rfl⟩ := own_slice hown
  have hB2 : Lies w2 I A2 (bitsOf n L) := Lies.of_own hown
  have hb2 := below_then hb1 hb
  obtain ⟨b, o, x, rfl, _, hx, hc⟩ := hB2.at_ (i := i) (by rw [bitsOf_len]; exact hi)
  rw [bitsOf_get _ _ _ hi] at hx
  have ex := Option.some.inj hx
  subst ex
  clear hown hb hb1 hB2 hL1 f0 f1 hx
  go_wp2
  go_ret
  exact ⟨rfl, hb2⟩

theorem specAt_any (N : Int) (A : Option Addr) (c : Nat) (L : List Nat) (i : Int) (w : World) (hL : Lies w U A L) (hw : ∀ x ∈ L, x < 2 ^ 64) :
    Calls Try.prog 35 #[.agg #[.int .i64 N, .slice A L.length c], .int .i64 i] w fun e w' => e = .returned (.int .i64 (bitAtV N L i)) ∧ Below w.heap.size w w' := by
  unfold bitAtV
  cases hok : okB N L
  · rw [if_neg (fun h => by cases h.1)]
    exact specAt_bad N A c L i w hL hw hok
  · by_cases hi : 0 ≤ i ∧ i < N
    · obtain ⟨n, rfl, hn, hl, _⟩ := okB_nat hok
      obtain ⟨j, rfl⟩ := Int.eq_ofNat_of_zero_le hi.1
      rw [if_pos ⟨rfl, hi⟩]
      exact specAt_in n A c L j w hL hw hok (by omega) hn (Lib.hid hl)
    · rw [if_neg (fun h => hi h.2)]
      exact specAt_out N A c L i w hL hw hok (by omega)

end Go.Proofs.Ytoiiiidijpenfaa
