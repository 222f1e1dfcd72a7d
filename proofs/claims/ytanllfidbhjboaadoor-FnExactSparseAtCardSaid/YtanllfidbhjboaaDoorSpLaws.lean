/- Contracts of the laws' own helpers on sparse lists: comparing, marking, holding. -/
import Derived.Test.YtanllfidbhjboaaDoorSp4
import Derived.Test.YtanllfidbhjboaaDoorStage
namespace Go.Proofs.YtanllfidbhjboaaDoor
open Go.RowKit
set_option maxRecDepth 100000

set_option maxHeartbeats 800000 in
theorem eqSparse_true (V N P M K H : Int) (A B A' B' : Option Addr) (c d c' d' : Nat) (L L' : List Nat) (w : World) (hL : Lies w U A L) (hK : Lies w U B L) (hL' : Lies w U A' L') (hK' : Lies w U B' L') (hn : L.length ≤ 17592186044416) (hn' : L'.length ≤ 17592186044416) :
    Calls Tryd.prog 25 #[SP V N P M K (.slice A L.length c) H (.slice A' L'.length c'), SP V N P M K (.slice B L.length d) H (.slice B' L'.length d')] w fun e w' => e = .returned (.bool true) ∧ Below w.heap.size w w' := by
  have t1 : (V != V) = false := by simp
  have t2 : (N != N) = false := by simp
  have HL := Lib.hid hL
  have HK := Lib.hid hK
  have HL' := Lib.hid hL'
  have HK' := Lib.hid hK'
  clear hL hK hL' hK'
  go_enter Tryd.func25, Tryd.ntmps25
  go_wp2_with fail
  have sc := ((Scene.start w).box 37 #[.int .i64 V, .int .i64 N, .int .i64 P, .int .i64 M, .int .i64 K, .slice A L.length c, .int .i64 H, .slice A' L'.length c']).box 37 #[.int .i64 V, .int .i64 N, .int .i64 P, .int .i64 M, .int .i64 K, .slice B L.length d, .int .i64 H, .slice B' L'.length d']
  simp only [World.size_alloc] at sc
  refine (eqPacked_true P M K A B c d L _ (sc.liesOld HL.out) (sc.liesOld HK.out) hn).mono ?_
  rintro e w1 ⟨rfl, hb⟩
  replace sc := sc.step hb
  clear hb
  obtain ⟨⟨p0, p1, p2, p3, p4, p5, p6, p7⟩, _, hp⟩ := box_eight (sc.getBox 0 rfl)
  obtain ⟨⟨q0, q1, q2, q3, q4, q5, q6, q7⟩, _, hq⟩ := box_eight (sc.getBox 1 rfl)
  go_wp2_with fail
  refine (eqBits_any H H A' B' c' d' L' L' _ (sc.liesOld HL'.out) (sc.liesOld HK'.out) hn').mono ?_
  rintro e w2 ⟨rfl, hb⟩
  rw [decide_eq_true ⟨rfl, rfl⟩]
  replace sc := sc.step hb
  have HB := Lib.hid sc.below
  clear hb sc p0 p1 p2 p3 p4 p5 p6 p7 q0 q1 q2 q3 q4 q5 q6 q7
  go_wp2
  go_ret
  exact ⟨rfl, HB.out⟩

theorem Scene.top {w0 w w' : World} {its : List Item} {t : TypeId} {cs : Array Value} (h : Scene w0 w' (.box w.heap.size t cs :: its)) : Scene w0 w' its := h.drop 1

/-- A row of marks. -/
abbrev marksAt (k : Int) (n : Nat) : List Value := (List.range n).map fun (j : Nat) => Value.int .u64 (k + j)

end Go.Proofs.YtanllfidbhjboaaDoor
