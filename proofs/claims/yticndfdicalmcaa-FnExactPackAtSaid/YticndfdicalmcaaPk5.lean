/- The specification's PackAt. -/
import Derived.Test.YticndfdicalmcaaPk4
namespace Go.Proofs.Yticndfdicalmcaa
open Go.RowKit

set_option maxHeartbeats 400000 in
theorem specPackAt_bad (P N M : Int) (A : Option Addr) (c : Nat) (L : List Nat) (i : Int) (w : World) (hL : Lies w U A L) (hw : ∀ x ∈ L, x < 2 ^ 64) (hok : okP P N M L = false) :
    Calls Try.prog 45 #[PK P N M (.slice A L.length c), .int .i64 i] w fun e w' => e = .returned (.int .i64 (-1)) ∧ Below w.heap.size w w' := by
  have HW := Lib.hid hw
  clear hw
  go_enter Try.func45, Try.ntmps45
  go_wp2_with fail
  refine (specPackOk_any P N M A c L _ (hL.below (by go_grown)) HW.out).mono ?_
  rintro e w1 ⟨rfl, hb⟩
  rw [hok]
  have HB := Lib.hid hb
  clear hb hL hok
  go_wp2
  go_ret
  exact ⟨rfl, below_then (by go_grown) HB.out⟩

set_option maxHeartbeats 400000 in
theorem specPackAt_out (P N M : Int) (A : Option Addr) (c : Nat) (L : List Nat) (i : Int) (w : World) (hL : Lies w U A L) (hw : ∀ x ∈ L, x < 2 ^ 64) (hok : okP P N M L = true) (hi : i < 0 ∨ N ≤ i) :
    Calls Try.prog 45 #[PK P N M (.slice A L.length c), .int .i64 i] w fun e w' => e = .returned (.int .i64 (-1)) ∧ Below w.heap.size w w' := by
  have HW := Lib.hid hw
  clear hw
  by_cases h0 : i < 0
  · have d0 : decide (i < 0) = true := by simpa using h0
    go_enter Try.func45, Try.ntmps45
    go_wp2_with fail
    refine (specPackOk_any P N M A c L _ (hL.below (by go_grown)) HW.out).mono ?_
    rintro e w1 ⟨rfl, hb⟩
    rw [hok]
    have HB := Lib.hid hb
    clear hb hL hok hi
    go_wp2
    go_ret
    exact ⟨rfl, below_then (by go_grown) HB.out⟩
  · have d0 : decide (i < 0) = false := by simpa using h0
    have hn : N ≤ i := by omega
    have d1 : decide (N ≤ i) = true := by simpa using hn
    go_enter Try.func45, Try.ntmps45
    go_wp2_with fail
    have hx0 := Box.made w 39 #[.int .i64 P, .int .i64 N, .int .i64 M, .slice A L.length c]
    refine (specPackOk_any P N M A c L _ (hL.below (by go_grown)) HW.out).mono ?_
    rintro e w1 ⟨rfl, hb⟩
    rw [hok]
    have f1 := (hx0.below hb hx0.lt).cell 1
    simp only [List.getElem?_toArray, List.getElem?_cons_zero, List.getElem?_cons_succ] at f1
    have HB := Lib.hid hb
    clear hb hL hok hi hx0
    go_wp2
    go_ret
    exact ⟨rfl, below_then (by go_grown) HB.out⟩

set_option maxHeartbeats 400000 in
theorem specPackAt_in (wd n m : Nat) (A : Option Addr) (c : Nat) (L : List Nat) (i : Nat) (w : World) (hL : Lies w U A L) (hw : ∀ x ∈ L, x < 2 ^ 64) (hok : okP wd n m L = true) (hn : n ≤ 5000) (hi : i < n) :
    Calls Try.prog 45 #[PK wd n m (.slice A L.length c), .int .i64 i] w fun e w' => e = .returned (.int .i64 (val (bitsOf m L) / 2 ^ (i * wd) % 2 ^ wd : Nat)) ∧ Below w.heap.size w w' := by
  have HW := Lib.hid hw
  clear hw
  have d0 : decide ((i : Int) < 0) = false := by simp
  have d1 : decide ((n : Int) ≤ (i : Int)) = false := by simp; omega
  have HC : Hid (∀ W : World, Lies W U A L → Calls Try.prog 46 #[PK wd n m (.slice A L.length c)] W (NewI W (unpack wd n (val (bitsOf m L))))) :=
    Lib.hid fun W hLW => by
      have h := specPackList_any wd n m A c L W hLW HW.out
      unfold plV at h
      rw [if_pos hok] at h
      exact h
  have HG := Lib.hid (unpack_get wd n (val (bitsOf m L)) i hi)
  have hul := unpack_len wd n (val (bitsOf m L))
  generalize val (bitsOf m L) / 2 ^ (i * wd) % 2 ^ wd = y at *
  generalize unpack wd n (val (bitsOf m L)) = B at *
  have HU := Lib.hid hul
  clear hul
  go_enter Try.func45, Try.ntmps45
  go_wp2_with fail
  have hx0 := Box.made w 39 #[.int .i64 wd, .int .i64 n, .int .i64 m, .slice A L.length c]
  have hb0 : Below w.heap.size w (w.alloc (.cells #[.int .i64 wd, .int .i64 n, .int .i64 m, .slice A L.length c] 39)) := by go_grown
  have hL0 := hL.below hb0
  refine (specPackOk_any wd n m A c L _ hL0 HW.out).mono ?_
  rintro e w1 ⟨rfl, hb⟩
  rw [hok]
  have hx1 := hx0.below hb hx0.lt
  have hL1 := hL0.below hb
  have hb1 := below_then hb0 hb
  have f0 := hx1.cell 0
  have f1 := hx1.cell 1
  have f2 := hx1.cell 2
  have f3 := hx1.cell 3
  simp only [List.getElem?_toArray, List.getElem?_cons_zero, List.getElem?_cons_succ] at f0 f1 f2 f3
  clear hb hL hok hx0 hx1 hb0 hL0
  go_wp2_with fail
  refine (HC.out _ hL1).mono ?_
  rintro e w2 ⟨A2, c2, rfl, hown, hb⟩
  have hB2 : Lies w2 I A2 B := Lies.of_own hown
  obtain ⟨b, o, y', rfl, _, hy, hc⟩ := hB2.at_ (i := i) (by rw [HU.out]; exact hi)
  have hyy : y' = (y : Int) := Option.some.inj (hy.symm.trans HG.out)
  subst hyy
  have hil : i < B.length := by rw [HU.out]; exact hi
  have HB2 := Lib.hid (below_then hb1 hb)
  clear hb hL1 hb1 hown hB2 hy f0 f1 f2 f3
  go_wp2
  go_ret
  exact ⟨rfl, HB2.out⟩

theorem specPackAt_any (P N M : Int) (A : Option Addr) (c : Nat) (L : List Nat) (i : Int) (w : World) (hL : Lies w U A L) (hw : ∀ x ∈ L, x < 2 ^ 64) :
    Calls Try.prog 45 #[PK P N M (.slice A L.length c), .int .i64 i] w fun e w' => e = .returned (.int .i64 (paV P N M L i)) ∧ Below w.heap.size w w' := by
  unfold paV
  cases hok : okP P N M L
  · rw [if_neg (fun h => by cases h.1)]
    exact specPackAt_bad P N M A c L i w hL hw hok
  · by_cases hi : 0 ≤ i ∧ i < N
    · obtain ⟨wd, n, m, rfl, rfl, rfl, _, _, hn, _, _, _, _⟩ := okP_nat hok
      obtain ⟨j, rfl⟩ := Int.eq_ofNat_of_zero_le hi.1
      rw [if_pos ⟨rfl, hi⟩]
      exact specPackAt_in wd n m A c L j w hL hw hok hn (by omega)
    · rw [if_neg (fun h => hi h.2)]
      exact specPackAt_out P N M A c L i w hL hw hok (by omega)

theorem plV_len (P N M : Int) (L : List Nat) : (plV P N M L).length ≤ 5000 := by
  unfold plV
  split
  · rename_i h
    obtain ⟨wd, n, m, rfl, rfl, rfl, _, _, hn, _, _, _, _⟩ := okP_nat h
    rw [unpack_len]
    exact hn
  · simp

end Go.Proofs.Yticndfdicalmcaa
