/- Contracts of the laws' own helpers on sparse lists that are handed in: their size, a copy. -/
import Derived.Test.YtlbnngolcoefdaaSpLaws
import Derived.Test.YtlbnngolcoefdaaSp10
namespace Go.Proofs.Ytlbnngolcoefdaa
open Go.RowKit
set_option maxRecDepth 100000

set_option maxHeartbeats 800000 in
theorem szSparse_fit (V N P M K H : Int) (A B : Option Addr) (n c m d : Nat) (w : World) (hf : n + m ≤ 1048576) :
    Calls Try.prog 8 #[SP V N P M K (.slice A n c) H (.slice B m d), .int .i64 1048576] w fun e w' => e = .returned (.int .i64 (1048576 - (n : Int) - (m : Int))) ∧ Below w.heap.size w w' := by
  have C1 := fun W => szPacked_any P M K A n c 1048576 W (by omega) (by omega) (by omega)
  simp only [if_neg (show ¬ (1048576 : Int) < (n : Int) by omega)] at C1
  have C2 := fun W => szBits_any H B m d (1048576 - (n : Int)) W (by omega) (by omega) (by omega)
  simp only [if_neg (show ¬ (1048576 - (n : Int)) < (m : Int) by omega)] at C2
  have H1 := Lib.hid C1
  have H2 := Lib.hid C2
  clear C1 C2
  have e1 : ¬ (1048576 - (n : Int) < 0) := by omega
  have e1d : decide (1048576 - (n : Int) < 0) = false := by simp; omega
  have e2 : ¬ (1048576 - (n : Int) - (m : Int) < 0) := by omega
  have e2d : decide (1048576 - (n : Int) - (m : Int) < 0) = false := by simp; omega
  go_enter Try.func8, Try.ntmps8
  go_wp2_with fail
  have sc := (Scene.start w).box 28 (SPC V N P M K (.slice A n c) H (.slice B m d))
  refine (H1.out _).mono ?_
  rintro e w1 ⟨rfl, hb⟩
  replace sc := sc.step hb
  clear hb
  obtain ⟨⟨p0, p1, p2, p3, p4, p5, p6, p7⟩, _, hbl⟩ := box_eight (sc.getBox 0 rfl)
  go_wp2_with fail
  refine (H2.out _).mono ?_
  rintro e w2 ⟨rfl, hb⟩
  replace sc := sc.step hb
  have HB := Lib.hid sc.below
  clear hb sc p0 p1 p2 p3 p4 p5 p6 p7
  go_wp2
  go_ret
  exact ⟨rfl, HB.out⟩

set_option maxHeartbeats 800000 in
theorem szSparse_big (V N P M K H : Int) (A B : Option Addr) (n c m d : Nat) (w : World) (hn : n ≤ 9223372036854775807) (hm : m ≤ 9223372036854775807) (hf : 1048576 < n + m) :
    Calls Try.prog 8 #[SP V N P M K (.slice A n c) H (.slice B m d), .int .i64 1048576] w fun e w' => e = .returned (.int .i64 (-1)) ∧ Below w.heap.size w w' := by
  by_cases h : (1048576 : Int) < (n : Int)
  · have C1 := fun W => szPacked_any P M K A n c 1048576 W hn (by omega) (by omega)
    simp only [if_pos h] at C1
    have H1 := Lib.hid C1
    clear C1
    go_enter Try.func8, Try.ntmps8
    go_wp2_with fail
    refine (H1.out _).mono ?_
    rintro e w1 ⟨rfl, hb⟩
    have HB := Lib.hid hb
    clear hb
    go_wp2
    go_ret
    exact ⟨rfl, below_then (by go_grown) HB.out⟩
  · have C1 := fun W => szPacked_any P M K A n c 1048576 W hn (by omega) (by omega)
    simp only [if_neg h] at C1
    have C2 := fun W => szBits_any H B m d (1048576 - (n : Int)) W hm (by omega) (by omega)
    simp only [if_pos (show (1048576 - (n : Int)) < (m : Int) by omega)] at C2
    have H1 := Lib.hid C1
    have H2 := Lib.hid C2
    clear C1 C2
    have e1 : ¬ (1048576 - (n : Int) < 0) := by omega
    have e1d : decide (1048576 - (n : Int) < 0) = false := by simp; omega
    go_enter Try.func8, Try.ntmps8
    go_wp2_with fail
    have sc := (Scene.start w).box 28 (SPC V N P M K (.slice A n c) H (.slice B m d))
    refine (H1.out _).mono ?_
    rintro e w1 ⟨rfl, hb⟩
    replace sc := sc.step hb
    clear hb
    obtain ⟨⟨p0, p1, p2, p3, p4, p5, p6, p7⟩, _, hbl⟩ := box_eight (sc.getBox 0 rfl)
    go_wp2_with fail
    refine (H2.out _).mono ?_
    rintro e w2 ⟨rfl, hb⟩
    replace sc := sc.step hb
    have HB := Lib.hid sc.below
    clear hb sc p0 p1 p2 p3 p4 p5 p6 p7
    go_wp2
    go_ret
    exact ⟨rfl, HB.out⟩

end Go.Proofs.Ytlbnngolcoefdaa
