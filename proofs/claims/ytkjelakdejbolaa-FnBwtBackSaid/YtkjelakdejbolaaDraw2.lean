/- The specification's raw and wide draws. -/
import Derived.Test.YtkjelakdejbolaaDraw1
namespace Go.Proofs.Ytkjelakdejbolaa
open Go.RowKit
set_option maxRecDepth 100000

/-- Some number was drawn, by at most k picks. -/
def DrewI (w : World) (g : Nat) (A : Option Addr) (c : Nat) (D : List Nat) (K : Nat) (e : Ending) (w' : World) : Prop :=
  ∃ r : Int, e = .returned (.int .i64 r) ∧ (-9223372036854775808 ≤ r ∧ r ≤ 9223372036854775807) ∧ Cur w' g A c D K ∧ w.grownBy w' (some g)

/-- A table of numbers that was just made. -/
theorem table_at {w : World} {b : Nat} {t : TypeId} {L : List Int} (h : Box w b t (L.map I).toArray) {i : Nat} (hi : i < L.length) : ∃ v, v ∈ L ∧ w.cell? ⟨b, i, none⟩ = some (.int .i64 v) := by
  refine ⟨L[i], List.getElem_mem hi, ?_⟩
  rw [h.cell, List.getElem?_toArray, List.getElem?_map, List.getElem?_eq_getElem hi]
  rfl
theorem box_kept {w w' : World} {g b : Nat} {t : TypeId} {cs : Array Value} (h : Box w b t cs) (hg : w.grownBy w' (some g)) (hne : b ≠ g) : Box w' b t cs :=
  h.grown hg fun e => hne (Option.some.inj e).symm
theorem cur_alloc {w : World} {g : Nat} {A : Option Addr} {c : Nat} {D : List Nat} {K : Nat} (h : Cur w g A c D K) (o : Obj) : Cur (w.alloc o) g A c D K := h.below ((Below.refl _ _).alloc (Nat.le_refl _) o)

set_option maxHeartbeats 800000 in
theorem raw_any (g : Nat) (A : Option Addr) (c : Nat) (D : List Nat) (K : Nat) (w : World) (h : Cur w g A c D K) (hK : K ≤ 4611686018427387000) :
    Calls Try.prog 59 #[.pointer (some ⟨g, 0, none⟩)] w (DrewI w g A c D (K + 2)) := by
  go_enter Try.func59, Try.ntmps59
  go_wp2_with fail
  refine (pick_any g A c D K 8 w h (by omega) (by omega)).mono ?_
  rintro e w1 ⟨r, rfl, hr, _, hc1, hg1⟩
  have hr8 : (r : Int) < 8 := hr (by omega)
  have HG := Lib.hid hg1
  clear hr hg1 h
  by_cases h0 : r = 0
  · have t0 : ((r : Int) == 0) = true := by rw [beq_iff_eq]; omega
    clear h0
    go_wp2_with fail
    refine (pick_any g A c D (K + 1) 256 w1 hc1 (by omega) (by omega)).mono ?_
    rintro e w2 ⟨q, rfl, hq, _, hc2, hg2⟩
    have hq2 : (q : Int) < 256 := hq (by omega)
    have HC := Lib.hid hc2
    have HG2 := Lib.hid hg2
    clear hq hg2 hc1 hc2
    go_wp2
    go_ret
    exact ⟨(q : Int) - 128, rfl, by omega, HC.out, HG.out.trans HG2.out⟩
  · have t0 : ((r : Int) == 0) = false := by rw [beq_eq_false_iff_ne]; omega
    by_cases h1 : r = 1
    · have t1 : ((r : Int) == 1) = true := by rw [beq_iff_eq]; omega
      clear h0 h1
      go_wp2_with fail
      have hbx := Box.made w1 3 #[Value.int IntKind.i64 9223372036854775807, Value.int IntKind.i64 (-9223372036854775808), Value.int IntKind.i64 4611686018427387904, Value.int IntKind.i64 4294967295, Value.int IntKind.i64 4294967296, Value.int IntKind.i64 (-1000), Value.int IntKind.i64 1000, Value.int IntKind.i64 257]
      have hlt := hc1.lt
      refine (pick_any g A c D (K + 1) 8 _ (cur_alloc hc1 _) (by omega) (by omega)).mono ?_
      rintro e w2 ⟨q, rfl, hq, _, hc2, hg2⟩
      have hq2 : (q : Int) < 8 := hq (by omega)
      have hb2 := box_kept hbx hg2 (by omega)
      obtain ⟨v, hv, hcell⟩ := table_at (L := [9223372036854775807, -9223372036854775808, 4611686018427387904, 4294967295, 4294967296, -1000, 1000, 257]) hb2 (i := q) (by simp; omega)
      have hvb : -9223372036854775808 ≤ v ∧ v ≤ 9223372036854775807 := by
        simp at hv
        omega
      have HV := Lib.hid hvb
      have HC := Lib.hid hc2
      have HG2 := Lib.hid ((World.grownBy_alloc w1 _ (some g)).trans hg2)
      clear hq hg2 hc1 hc2 hb2 hbx hv hvb
      go_wp2
      go_ret
      exact ⟨v, rfl, HV.out, HC.out, HG.out.trans HG2.out⟩
    · have t1 : ((r : Int) == 1) = false := by rw [beq_eq_false_iff_ne]; omega
      clear h0 h1
      go_wp2_with fail
      refine (pick_any g A c D (K + 1) 14 w1 hc1 (by omega) (by omega)).mono ?_
      rintro e w2 ⟨q, rfl, hq, _, hc2, hg2⟩
      have hq2 : (q : Int) < 14 := hq (by omega)
      have HC := Lib.hid hc2
      have HG2 := Lib.hid hg2
      clear hq hg2 hc1 hc2
      go_wp2
      go_ret
      exact ⟨(q : Int) - 3, rfl, by omega, HC.out, HG.out.trans HG2.out⟩

/-- A number below n was drawn, by at most three picks. -/
def DrewW (w : World) (g : Nat) (A : Option Addr) (c : Nat) (D : List Nat) (K n : Nat) (e : Ending) (w' : World) : Prop :=
  ∃ r : Nat, e = .returned (.int .i64 r) ∧ r < n ∧ r < 16777216 ∧ Cur w' g A c D K ∧ w.grownBy w' (some g)

end Go.Proofs.Ytkjelakdejbolaa
