/- The draw of a place. -/
import Derived.Test.YtanllfidbhjboaaDoorDraw6d
namespace Go.Proofs.YtanllfidbhjboaaDoor
open Go.RowKit
set_option maxRecDepth 100000

set_option maxHeartbeats 1600000 in
theorem place_any (g : Nat) (A : Option Addr) (c : Nat) (D : List Nat) (K n : Nat) (w : World) (h : Cur w g A c D K) (hn : n ≤ 300) (hK : K ≤ 4611686018427200000) :
    Calls Tryd.prog 32 #[.pointer (some ⟨g, 0, none⟩), .int .i64 n] w (DrewI w g A c D (K + 5)) := by
  have hw1 : IntKind.i64.wrap ((n : Int) + 2) = (n : Int) + 2 := (IntKind.wrap_i64 _).trans (by omega)
  obtain ⟨q, hq⟩ : ∃ q : Nat, (if (1 : Int) < (n : Int) then (n : Int) else 1) = (q : Int) := ⟨if 1 < n then n else 1, by split <;> split <;> omega⟩
  have hq3 : q ≤ 400 := by split at hq <;> omega
  go_enter Tryd.func32, Tryd.ntmps32
  go_wp2_with fail
  refine (pick_any g A c D K ((n : Int) + 2) w h (by omega) (by omega)).mono ?_
  rintro e w1 ⟨r1, rfl, hr1, _, hc1, hg1⟩
  have B1 : Hid ((r1 : Int) < 400) := Lib.hid (by have := hr1 (by omega); omega)
  have HG := Lib.hid hg1
  clear hr1 hg1 h
  go_wp2_with fail
  refine (raw_any g A c D (K + 1) w1 hc1 (by omega)).mono ?_
  rintro e w2 ⟨x, rfl, hx, hc2, hg2⟩
  have HX := Lib.hid hx
  replace HG := Lib.hid (HG.out.trans hg2)
  clear hx hg2 hc1
  go_wp2_with fail
  refine (pick_any g A c D (K + 1 + 2) q w2 hc2 (by omega) (by omega)).mono ?_
  rintro e w3 ⟨r3, rfl, hr3, hr3', hc3, hg3⟩
  have B3 : Hid ((r3 : Int) < 400) := Lib.hid (by by_cases h2 : (2 : Int) ≤ q; · have := hr3 h2; omega
                                                  · have := hr3' (by omega); omega)
  replace HG := Lib.hid (HG.out.trans hg3)
  clear hr3 hr3' hg3 hc2
  go_wp2_with fail
  have hbx := Box.made w3 3 #[Value.int IntKind.i64 r1, Value.int IntKind.i64 n, Value.int IntKind.i64 ((n : Int) - 1), Value.int IntKind.i64 x, Value.int IntKind.i64 r3]
  have hlt := hc3.lt
  refine (pick_any g A c D (K + 1 + 2 + 1) 5 _ (cur_alloc hc3 _) (by omega) (by omega)).mono ?_
  rintro e w4 ⟨k, rfl, hk, _, hc4, hg4⟩
  have hk5 : (k : Int) < 5 := hk (by omega)
  obtain ⟨v, hv, hcell⟩ := table_at (L := [(r1 : Int), (n : Int), (n : Int) - 1, x, (r3 : Int)]) (box_kept hbx hg4 (by omega)) (i := k) (by simp; omega)
  have HV : Hid (-9223372036854775808 ≤ v ∧ v ≤ 9223372036854775807) := Lib.hid (by
    have := B1.out
    have := B3.out
    have := HX.out
    simp at hv
    omega)
  have HC := Lib.hid hc4
  have HG4 := Lib.hid (HG.out.trans ((World.grownBy_alloc w3 _ (some g)).trans hg4))
  clear hk hg4 hc3 hc4 hbx hv HG
  go_wp2
  go_ret
  exact ⟨v, rfl, HV.out, HC.out, HG4.out⟩

end Go.Proofs.YtanllfidbhjboaaDoor
