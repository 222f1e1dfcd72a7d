/- The program's SparseOk. -/
import Derived.Test.YtlbnngolcoefdaaDoorSp9
import Derived.Test.YtlbnngolcoefdaaDoorRank4d
import Derived.Test.YtlbnngolcoefdaaDoorStage
namespace Go.Proofs.YtlbnngolcoefdaaDoor
open Go.RowKit
set_option maxRecDepth 100000

/-- The numbers of a sparse list. -/
def splV (P M K : Int) (Ws : List Nat) (H : Int) (Vs : List Nat) : List Int := spl P.toNat (plV P M K Ws) Vs H.toNat
/-- Which values are sparse lists. -/
def okS (V N P M K : Int) (Ws : List Nat) (H : Int) (Vs : List Nat) : Bool :=
  (decide (0 ≤ N) && spFits N.toNat V) && (okP P M K Ws && (okB H Vs && ((decide (M = N) && decide (P = (lowV N.toNat V.toNat : Int))) && ((decide (H = (hiV N.toNat V.toNat : Int)) && decide ((cnt Vs 1 H.toNat : Int) = N)) && srt V 0 (splV P M K Ws H Vs)))))

set_option maxHeartbeats 800000 in
theorem sparseFits_int (n u : Int) (w : World) (hn : n ≤ 9223372036854775807) :
    Calls Tryd.prog 54 #[.int .i64 n, .int .i64 u] w fun e w' => e = .returned (.bool (decide (0 ≤ n) && spFits n.toNat u)) ∧ w = w' := by
  by_cases h0 : n < 0
  · rw [decide_eq_false (by omega), Bool.false_and]
    have d0 : decide (n < 0) = true := by simpa using h0
    go_enter Tryd.func54, Tryd.ntmps54
    go_wp2
    go_ret
    exact ⟨rfl, rfl⟩
  · obtain ⟨m, rfl⟩ := Int.eq_ofNat_of_zero_le (show 0 ≤ n by omega)
    rw [decide_eq_true (by omega), Bool.true_and, Int.toNat_natCast]
    by_cases hb : m ≤ 1000000000000000000
    · exact sparseFits_any m u w hb
    · have hfit : ∀ l : Int, fitsB (m : Int) l = false := fun l => by
        unfold fitsB
        rw [decide_eq_false_iff_not]
        omega
      have hsp : spFits m u = false := by
        unfold spFits
        rw [hfit]
        simp
      rw [hsp]
      by_cases h : 0 ≤ u ∧ u ≤ 1000000
      · obtain ⟨v, rfl⟩ := Int.eq_ofNat_of_zero_le h.1
        have C1 := Lib.hid fun W : World => implLow_any m v W (by omega) (by omega)
        have C3 := Lib.hid fun W : World => packFits_any m (lowV m v) W
        rw [hfit] at C3
        have hl := lowV_le m v (by omega)
        generalize lowV m v = l at *
        clear hfit hsp
        go_enter Tryd.func54, Tryd.ntmps54
        go_wp2_with (first | (go_at_call 57; refine (C1.out _).mono ?_; rintro e w' ⟨rfl, rfl⟩) | (go_at_call 91; refine (C3.out _).mono ?_; rintro e w' ⟨rfl, rfl⟩))
        go_ret
        exact ⟨rfl, rfl⟩
      · by_cases h1 : u < 0
        all_goals (
          have hx : ¬ u < 0 → 1000000 < u := by omega
          clear hfit hsp
          go_enter Tryd.func54, Tryd.ntmps54
          go_wp2
          go_ret
          exact ⟨rfl, rfl⟩)

/-- The box of a sparse list. -/
abbrev SPC (V N P M K : Int) (a : Value) (H : Int) (b : Value) : Array Value := #[.int .i64 V, .int .i64 N, .int .i64 P, .int .i64 M, .int .i64 K, a, .int .i64 H, b]

set_option maxHeartbeats 1600000 in
theorem implSparseOk_bad (V N P M K H : Int) (A A' : Option Addr) (c c' : Nat) (Ws Vs : List Nat) (w : World) (hL : Lies w U A Ws) (hL' : Lies w U A' Vs) (hw : ∀ x ∈ Ws, x < 2 ^ 64) (hw' : ∀ x ∈ Vs, x < 2 ^ 64) (hN : N ≤ 9223372036854775807)
    (hbad : (decide (0 ≤ N) && spFits N.toNat V) = false ∨ okP P M K Ws = false ∨ okB H Vs = false) :
    Calls Tryd.prog 16 #[SP V N P M K (.slice A Ws.length c) H (.slice A' Vs.length c')] w fun e w' => e = .returned (.bool (okS V N P M K Ws H Vs)) ∧ Below w.heap.size w w' := by
  have hno : okS V N P M K Ws H Vs = false := by
    unfold okS
    rcases hbad with h | h | h
    · rw [h, Bool.false_and]
    · rw [h, Bool.false_and, Bool.and_false]
    · rw [h, Bool.false_and, Bool.and_false, Bool.and_false]
  rw [hno]
  have CF := Lib.hid fun W : World => sparseFits_int N V W hN
  have HL := Lib.hid hL
  have HL' := Lib.hid hL'
  have HW := Lib.hid hw
  have HW' := Lib.hid hw'
  clear hL hL' hw hw' hno
  go_enter Tryd.func16, Tryd.ntmps16
  go_wp2_with fail
  have sc := (Scene.start w).box 33 (SPC V N P M K (.slice A Ws.length c) H (.slice A' Vs.length c'))
  generalize w.alloc (Obj.cells (SPC V N P M K (.slice A Ws.length c) H (.slice A' Vs.length c')) 33) = w1 at *
  refine (CF.out _).mono ?_
  rintro e w2 ⟨rfl, rfl⟩
  obtain ⟨⟨p0, p1, p2, p3, p4, p5, p6, p7⟩, _, hbl⟩ := box_eight (sc.getBox 0 rfl)
  cases hf : (decide (0 ≤ N) && spFits N.toNat V)
  · have HB := Lib.hid sc.below
    clear sc hbad
    go_wp2
    go_ret
    exact ⟨rfl, HB.out⟩
  · rw [hf] at hbad
    go_wp2_with fail
    clear p0 p1 p2 p3 p4 p5 p6 p7 hbl
    refine (implPackOk_any P M K A c Ws _ (sc.liesOld HL.out) HW.out).mono ?_
    rintro e w2 ⟨rfl, hb⟩
    replace sc := sc.step hb
    clear hb
    obtain ⟨⟨p0, p1, p2, p3, p4, p5, p6, p7⟩, _, hbl⟩ := box_eight (sc.getBox 0 rfl)
    cases hp : okP P M K Ws
    · have HB := Lib.hid sc.below
      clear sc hbad
      go_wp2
      go_ret
      exact ⟨rfl, HB.out⟩
    · rw [hp] at hbad
      have hb0 : okB H Vs = false := by simpa using hbad
      go_wp2_with fail
      clear p0 p1 p2 p3 p4 p5 p6 p7 hbl
      refine (implOk_any H A' c' Vs _ (sc.liesOld HL'.out) HW'.out).mono ?_
      rintro e w3 ⟨rfl, hb⟩
      rw [hb0]
      replace sc := sc.step hb
      have HB := Lib.hid sc.below
      clear sc hbad hb
      go_wp2
      go_ret
      exact ⟨rfl, HB.out⟩

end Go.Proofs.YtlbnngolcoefdaaDoor
