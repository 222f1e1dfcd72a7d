/- The program's BitAt. -/
import Derived.Test.YtoehgcakfblblaaDoorImpl2
import Derived.Test.YtoehgcakfblblaaDoorWvMath2
import Derived.Test.YtoehgcakfblblaaDoorDraw3
namespace Go.Proofs.YtoehgcakfblblaaDoor
open Go.RowKit
set_option maxRecDepth 100000

/-- One bit of a word, as the walk spells it. -/
theorem digit_form (x i : Nat) (hx : x < 2 ^ 64) : wrap64 (bits .and .u64 ((x : Int) / 2 ^ i) 1) = ((x / 2 ^ i % 2 : Nat) : Int) := by
  have hq : x / 2 ^ i < 2 ^ 64 := Nat.lt_of_le_of_lt (Nat.div_le_self _ _) hx
  have e : (x : Int) / 2 ^ i = ((x / 2 ^ i : Nat) : Int) := by simp
  have h := u64_and_nat (x / 2 ^ i) 1 hq (by decide)
  rw [nat_mask1] at h
  rw [e, show (1 : Int) = ((1 : Nat) : Int) from rfl, h]
  exact IntWalk.wrap64_in _ (by omega)

set_option maxHeartbeats 400000 in
theorem wordAt_any (g : Nat) (x i : Nat) (w : World) (hc : w.cell? ⟨g, 0, none⟩ = some (U x)) (hx : x < 2 ^ 64) (hi : i < 64) :
    Calls Tryd.prog 50 #[.pointer (some ⟨g, 0, none⟩), .int .i64 i] w fun e w' => e = .returned (.int .i64 (x / 2 ^ i % 2 : Nat)) ∧ w = w' := by
  have HD := Lib.hid (digit_form x i hx)
  have hs := fun W => run_shr_u64 (P := Tryd.prog) 76 x i (by omega) W
  go_enter Tryd.func50, Tryd.ntmps50
  go_wp2
  go_ret
  exact ⟨ret_int HD.out, rfl⟩

set_option maxHeartbeats 400000 in
theorem implAt_bad (N : Int) (A : Option Addr) (c : Nat) (L : List Nat) (i : Int) (w : World) (hL : Lies w U A L) (hw : ∀ x ∈ L, x < 2 ^ 64) (hok : okB N L = false) :
    Calls Tryd.prog 42 #[.agg #[.int .i64 N, .slice A L.length c], .int .i64 i] w fun e w' => e = .returned (.int .i64 (-1)) ∧ Below w.heap.size w w' := by
  have HW := Lib.hid hw
  clear hw
  go_enter Tryd.func42, Tryd.ntmps42
  go_wp2_with fail
  refine (implOk_any N A c L _ (hL.below (by go_grown)) HW.out).mono ?_
  rintro e w1 ⟨rfl, hb⟩
  rw [hok]
  have HB := Lib.hid hb
  clear hb hL hok
  go_wp2
  go_ret
  exact ⟨rfl, below_then (by go_grown) HB.out⟩

set_option maxHeartbeats 400000 in
theorem implAt_out (N : Int) (A : Option Addr) (c : Nat) (L : List Nat) (i : Int) (w : World) (hL : Lies w U A L) (hw : ∀ x ∈ L, x < 2 ^ 64) (hok : okB N L = true) (hi : i < 0 ∨ N ≤ i) :
    Calls Tryd.prog 42 #[.agg #[.int .i64 N, .slice A L.length c], .int .i64 i] w fun e w' => e = .returned (.int .i64 (-1)) ∧ Below w.heap.size w w' := by
  have HW := Lib.hid hw
  clear hw
  by_cases h0 : i < 0
  · have d0 : decide (i < 0) = true := by simpa using h0
    go_enter Tryd.func42, Tryd.ntmps42
    go_wp2_with fail
    refine (implOk_any N A c L _ (hL.below (by go_grown)) HW.out).mono ?_
    rintro e w1 ⟨rfl, hb⟩
    rw [hok]
    have HB := Lib.hid hb
    clear hb hL hok hi
    go_wp2
    go_ret
    exact ⟨rfl, below_then (by go_grown) HB.out⟩
  · have d0 : decide (i < 0) = false := by simpa using h0
    have hn : N ≤ i := by omega
    have d1 : decide (N ≤ i) = true := by simpa using hn
    go_enter Tryd.func42, Tryd.ntmps42
    go_wp2_with fail
    have hx0 := Box.made w 46 #[.int .i64 N, .slice A L.length c]
    refine (implOk_any N A c L _ (hL.below (by go_grown)) HW.out).mono ?_
    rintro e w1 ⟨rfl, hb⟩
    rw [hok]
    have f0 := (hx0.below hb hx0.lt).cell 0
    simp only [List.getElem?_toArray, List.getElem?_cons_zero, List.getElem?_cons_succ] at f0
    have HB := Lib.hid hb
    clear hb hL hok hi hx0
    go_wp2
    go_ret
    exact ⟨rfl, below_then (by go_grown) HB.out⟩

set_option maxHeartbeats 400000 in
theorem implAt_in (n : Nat) (A : Option Addr) (c : Nat) (L : List Nat) (i : Nat) (w : World) (hL : Lies w U A L) (hw : ∀ x ∈ L, x < 2 ^ 64) (hok : okB n L = true) (hi : i < n) (hn : n ≤ 5000) (hl : Hid (L.length = (n + 63) / 64)) :
    Calls Tryd.prog 42 #[.agg #[.int .i64 n, .slice A L.length c], .int .i64 i] w fun e w' => e = .returned (.int .i64 (bitN L i)) ∧ Below w.heap.size w w' := by
  have HW := Lib.hid hw
  clear hw
  have d0 : decide ((i : Int) < 0) = false := by simp
  have d1 : decide ((n : Int) ≤ (i : Int)) = false := by simp; omega
  have hil : i / 64 < L.length := by rw [hl.out]; omega
  go_enter Tryd.func42, Tryd.ntmps42
  go_wp2_with fail
  have hx0 := Box.made w 46 #[.int .i64 n, .slice A L.length c]
  have hb0 : Below w.heap.size w (w.alloc (.cells #[.int .i64 n, .slice A L.length c] 46)) := by go_grown
  have hL0 := hL.below hb0
  refine (implOk_any n A c L _ hL0 HW.out).mono ?_
  rintro e w1 ⟨rfl, hb⟩
  rw [hok]
  have hx1 := hx0.below hb hx0.lt
  have hL1 := hL0.below hb
  have hb1 := below_then hb0 hb
  have f0 := hx1.cell 0
  have f1 := hx1.cell 1
  simp only [List.getElem?_toArray, List.getElem?_cons_zero, List.getElem?_cons_succ] at f0 f1
  obtain ⟨b, o, x, rfl, _, hx, hc⟩ := hL1.at_ hil
  have hx64 := HW.out x (List.mem_of_getElem? hx)
  have HV : Hid (bitN L i = x / 2 ^ (i % 64) % 2) := Lib.hid (by unfold bitN; rw [List.getD_eq_getElem?_getD, hx, Option.getD_some])
  have HB1 := Lib.hid hb1
  clear hb hL hok hx0 hx1 hb0 hL0 hL1 hx hb1 HW hl
  go_wp2_with fail
  refine (wordAt_any w1.heap.size x (i % 64) _ (by simp) hx64 (by omega)).mono ?_
  rintro e w2 ⟨rfl, rfl⟩
  rw [← HV.out]
  go_wp2
  go_ret
  exact ⟨rfl, HB1.out.alloc HB1.out.size _⟩

theorem implAt_any (N : Int) (A : Option Addr) (c : Nat) (L : List Nat) (i : Int) (w : World) (hL : Lies w U A L) (hw : ∀ x ∈ L, x < 2 ^ 64) :
    Calls Tryd.prog 42 #[.agg #[.int .i64 N, .slice A L.length c], .int .i64 i] w fun e w' => e = .returned (.int .i64 (bitAtV N L i)) ∧ Below w.heap.size w w' := by
  unfold bitAtV
  cases hok : okB N L
  · rw [if_neg (fun h => by cases h.1)]
    exact implAt_bad N A c L i w hL hw hok
  · by_cases hi : 0 ≤ i ∧ i < N
    · obtain ⟨n, rfl, hn, hl, _⟩ := okB_nat hok
      obtain ⟨j, rfl⟩ := Int.eq_ofNat_of_zero_le hi.1
      rw [if_pos ⟨rfl, hi⟩]
      exact implAt_in n A c L j w hL hw hok (by omega) hn (Lib.hid hl)
    · rw [if_neg (fun h => hi h.2)]
      exact implAt_out N A c L i w hL hw hok (by omega)

end Go.Proofs.YtoehgcakfblblaaDoor
