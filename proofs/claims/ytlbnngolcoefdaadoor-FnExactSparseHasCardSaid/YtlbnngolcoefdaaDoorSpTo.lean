import Derived.Test.YtlbnngolcoefdaaDoorSp4
import Derived.Test.YtlbnngolcoefdaaDoorStage
import Derived.Test.YtlbnngolcoefdaaDoorSp10
import Derived.Test.YtlbnngolcoefdaaDoorSp14
/- Contracts of the laws' own helpers on sparse lists: comparing, marking, holding. -/
namespace Go.Proofs.YtlbnngolcoefdaaDoor
open Go.RowKit
set_option maxRecDepth 100000

set_option maxHeartbeats 800000 in
theorem eqSparse_true (V N P M K H : Int) (A B A' B' : Option Addr) (c d c' d' : Nat) (L L' : List Nat) (w : World) (hL : Lies w U A L) (hK : Lies w U B L) (hL' : Lies w U A' L') (hK' : Lies w U B' L') (hn : L.length ≤ 17592186044416) (hn' : L'.length ≤ 17592186044416) :
    Calls Tryd.prog 33 #[SP V N P M K (.slice A L.length c) H (.slice A' L'.length c'), SP V N P M K (.slice B L.length d) H (.slice B' L'.length d')] w fun e w' => e = .returned (.bool true) ∧ Below w.heap.size w w' := by
  have t1 : (V != V) = false := by simp
  have t2 : (N != N) = false := by simp
  have HL := Lib.hid hL
  have HK := Lib.hid hK
  have HL' := Lib.hid hL'
  have HK' := Lib.hid hK'
  clear hL hK hL' hK'
  go_enter Tryd.func33, Tryd.ntmps33
  go_wp2_with fail
  have sc := ((Scene.start w).box 33 #[.int .i64 V, .int .i64 N, .int .i64 P, .int .i64 M, .int .i64 K, .slice A L.length c, .int .i64 H, .slice A' L'.length c']).box 33 #[.int .i64 V, .int .i64 N, .int .i64 P, .int .i64 M, .int .i64 K, .slice B L.length d, .int .i64 H, .slice B' L'.length d']
  simp only [World.size_alloc] at sc
  refine (eqPacked_true P M K A B c d L _ (sc.liesOld HL.out) (sc.liesOld HK.out) hn).mono ?_
  rintro e w1 ⟨rfl, hb⟩
  replace sc := sc.step hb
  clear hb
  obtain ⟨⟨p0, p1, p2, p3, p4, p5, p6, p7⟩, _, hp⟩ := box_eight (sc.getBox 0 rfl)
  obtain ⟨⟨q0, q1, q2, q3, q4, q5, q6, q7⟩, _, hq⟩ := box_eight (sc.getBox 1 rfl)
  go_wp2_with fail
  refine (eqBits_any H H A' B' c' d' L' L' _ (sc.liesOld HL'.out) (sc.liesOld HK'.out) hn').mono ?_
  rintro e w2 ⟨rfl, hb⟩
  rw [decide_eq_true ⟨rfl, rfl⟩]
  replace sc := sc.step hb
  have HB := Lib.hid sc.below
  clear hb sc p0 p1 p2 p3 p4 p5 p6 p7 q0 q1 q2 q3 q4 q5 q6 q7
  go_wp2
  go_ret
  exact ⟨rfl, HB.out⟩

theorem Scene.top {w0 w w' : World} {its : List Item} {t : TypeId} {cs : Array Value} (h : Scene w0 w' (.box w.heap.size t cs :: its)) : Scene w0 w' its := h.drop 1

/-- A row of marks. -/
abbrev marksAt (k : Int) (n : Nat) : List Value := (List.range n).map fun (j : Nat) => Value.int .u64 (k + j)

end Go.Proofs.YtlbnngolcoefdaaDoor

/- Contracts of the laws' own helpers on sparse lists that are handed in: their size, a copy. -/
namespace Go.Proofs.YtlbnngolcoefdaaDoor
open Go.RowKit
set_option maxRecDepth 100000

set_option maxHeartbeats 800000 in
theorem szSparse_fit (V N P M K H : Int) (A B : Option Addr) (n c m d : Nat) (w : World) (hf : n + m ≤ 1048576) :
    Calls Tryd.prog 30 #[SP V N P M K (.slice A n c) H (.slice B m d), .int .i64 1048576] w fun e w' => e = .returned (.int .i64 (1048576 - (n : Int) - (m : Int))) ∧ Below w.heap.size w w' := by
  have C1 := fun W => szPacked_any P M K A n c 1048576 W (by omega) (by omega) (by omega)
  simp only [if_neg (show ¬ (1048576 : Int) < (n : Int) by omega)] at C1
  have C2 := fun W => szBits_any H B m d (1048576 - (n : Int)) W (by omega) (by omega) (by omega)
  simp only [if_neg (show ¬ (1048576 - (n : Int)) < (m : Int) by omega)] at C2
  have H1 := Lib.hid C1
  have H2 := Lib.hid C2
  clear C1 C2
  have e1 : ¬ (1048576 - (n : Int) < 0) := by omega
  have e1d : decide (1048576 - (n : Int) < 0) = false := by simp; omega
  have e2 : ¬ (1048576 - (n : Int) - (m : Int) < 0) := by omega
  have e2d : decide (1048576 - (n : Int) - (m : Int) < 0) = false := by simp; omega
  go_enter Tryd.func30, Tryd.ntmps30
  go_wp2_with fail
  have sc := (Scene.start w).box 60 (SPC V N P M K (.slice A n c) H (.slice B m d))
  refine (H1.out _).mono ?_
  rintro e w1 ⟨rfl, hb⟩
  replace sc := sc.step hb
  clear hb
  obtain ⟨⟨p0, p1, p2, p3, p4, p5, p6, p7⟩, _, hbl⟩ := box_eight (sc.getBox 0 rfl)
  go_wp2_with fail
  refine (H2.out _).mono ?_
  rintro e w2 ⟨rfl, hb⟩
  replace sc := sc.step hb
  have HB := Lib.hid sc.below
  clear hb sc p0 p1 p2 p3 p4 p5 p6 p7
  go_wp2
  go_ret
  exact ⟨rfl, HB.out⟩

set_option maxHeartbeats 800000 in
theorem szSparse_big (V N P M K H : Int) (A B : Option Addr) (n c m d : Nat) (w : World) (hn : n ≤ 9223372036854775807) (hm : m ≤ 9223372036854775807) (hf : 1048576 < n + m) :
    Calls Tryd.prog 30 #[SP V N P M K (.slice A n c) H (.slice B m d), .int .i64 1048576] w fun e w' => e = .returned (.int .i64 (-1)) ∧ Below w.heap.size w w' := by
  by_cases h : (1048576 : Int) < (n : Int)
  · have C1 := fun W => szPacked_any P M K A n c 1048576 W hn (by omega) (by omega)
    simp only [if_pos h] at C1
    have H1 := Lib.hid C1
    clear C1
    go_enter Tryd.func30, Tryd.ntmps30
    go_wp2_with fail
    refine (H1.out _).mono ?_
    rintro e w1 ⟨rfl, hb⟩
    have HB := Lib.hid hb
    clear hb
    go_wp2
    go_ret
    exact ⟨rfl, below_then (by go_grown) HB.out⟩
  · have C1 := fun W => szPacked_any P M K A n c 1048576 W hn (by omega) (by omega)
    simp only [if_neg h] at C1
    have C2 := fun W => szBits_any H B m d (1048576 - (n : Int)) W hm (by omega) (by omega)
    simp only [if_pos (show (1048576 - (n : Int)) < (m : Int) by omega)] at C2
    have H1 := Lib.hid C1
    have H2 := Lib.hid C2
    clear C1 C2
    have e1 : ¬ (1048576 - (n : Int) < 0) := by omega
    have e1d : decide (1048576 - (n : Int) < 0) = false := by simp; omega
    go_enter Tryd.func30, Tryd.ntmps30
    go_wp2_with fail
    have sc := (Scene.start w).box 60 (SPC V N P M K (.slice A n c) H (.slice B m d))
    refine (H1.out _).mono ?_
    rintro e w1 ⟨rfl, hb⟩
    replace sc := sc.step hb
    clear hb
    obtain ⟨⟨p0, p1, p2, p3, p4, p5, p6, p7⟩, _, hbl⟩ := box_eight (sc.getBox 0 rfl)
    go_wp2_with fail
    refine (H2.out _).mono ?_
    rintro e w2 ⟨rfl, hb⟩
    replace sc := sc.step hb
    have HB := Lib.hid sc.below
    clear hb sc p0 p1 p2 p3 p4 p5 p6 p7
    go_wp2
    go_ret
    exact ⟨rfl, HB.out⟩

end Go.Proofs.YtlbnngolcoefdaaDoor

/- The laws' copy of a sparse list. -/
namespace Go.Proofs.YtlbnngolcoefdaaDoor
open Go.RowKit
set_option maxRecDepth 100000

/-- A new sparse list is returned, alone. -/
def NewSparse1 (w : World) (V N P M K : Int) (Ws : List Nat) (H : Int) (Vs : List Nat) (e : Ending) (w' : World) : Prop :=
  ∃ A c A' c', e = .returned (SP V N P M K (.slice A Ws.length c) H (.slice A' Vs.length c')) ∧ TwoRows w w' (.slice A Ws.length c) Ws (.slice A' Vs.length c') Vs

set_option maxHeartbeats 1600000 in
theorem toSparse_new (V N P M K H : Int) (A : Option Addr) (c : Nat) (L : List Nat) (B : Option Addr) (d : Nat) (Q : List Nat) (w : World) (hL : Lies w U A L) (hQ : Lies w U B Q) (hn : L.length ≤ 17592186044416) (hm : Q.length ≤ 17592186044416) :
    Calls Tryd.prog 32 #[SP V N P M K (.slice A L.length c) H (.slice B Q.length d)] w (NewSparse1 w V N P M K L H Q) := by
  have HL := Lib.hid hL
  have HQ := Lib.hid hQ
  clear hL hQ
  go_enter Tryd.func32, Tryd.ntmps32
  go_wp2_with fail
  have sc := (((Scene.start w).box 60 (SPC V N P M K (.slice A L.length c) H (.slice B Q.length d))).box 33 SPZ).box 33 (SPC V N 0 0 0 (.slice none 0 0) 0 (.slice none 0 0))
  simp only [World.size_alloc] at sc
  have hz3 : ((((w.alloc (Obj.cells (SPC V N P M K (.slice A L.length c) H (.slice B Q.length d)) 60)).alloc (Obj.cells SPZ 33)).alloc (Obj.cells (SPC V N 0 0 0 (.slice none 0 0) 0 (.slice none 0 0)) 33))).heap.size = w.heap.size + 1 + 1 + 1 := by simp
  generalize (((w.alloc (Obj.cells (SPC V N P M K (.slice A L.length c) H (.slice B Q.length d)) 60)).alloc (Obj.cells SPZ 33)).alloc (Obj.cells (SPC V N 0 0 0 (.slice none 0 0) 0 (.slice none 0 0)) 33)) = w3 at *
  refine (toPacked_new P M K A c L _ (sc.liesOld HL.out) hn).mono ?_
  rintro e w4 ⟨A1, c1, rfl, ho1, hb4⟩
  replace sc := sc.step hb4
  have hz4 := hb4.size
  have H1 := Lib.hid ho1
  clear ho1 hb4
  have B0 := Lib.hid (sc.getBox 2 rfl)
  have B1 := Lib.hid (sc.getBox 1 rfl)
  have B2 := Lib.hid (sc.getBox 0 rfl)
  have HB := Lib.hid sc.below
  obtain ⟨⟨p0, p1, p2, p3, p4, p5, p6, p7⟩, _, pl⟩ := box_eight B0.out
  obtain ⟨⟨q0, q1, q2, q3, q4, q5, q6, q7⟩, ⟨y0, y1, y2, y3, y4, y5, y6, y7⟩, ql⟩ := box_eight B2.out
  clear sc
  have hg5 : w4.grownBy ((((w4.setCell ⟨w.heap.size + 1 + 1, 2, none⟩ (.int .i64 P)).setCell ⟨w.heap.size + 1 + 1, 3, none⟩ (.int .i64 M)).setCell ⟨w.heap.size + 1 + 1, 4, none⟩ (.int .i64 K)).setCell ⟨w.heap.size + 1 + 1, 5, none⟩ (.slice A1 L.length c1)) (some (w.heap.size + 1 + 1)) :=
    (((grown_set w4 (w.heap.size + 1 + 1) 2 (.int .i64 P)).trans (grown_set _ _ 3 (.int .i64 M))).trans (grown_set _ _ 4 (.int .i64 K))).trans (grown_set _ _ 5 (.slice A1 L.length c1))
  have HG5 := Lib.hid hg5
  clear hg5
  go_wp2_with fail
  clear p0 p1 p2 p3 p4 p5 p6 p7 q0 q1 q2 q3 q4 q5 q6 q7 y0 y1 y2 y3 y4 y5 y6 y7
  have hx1 : Box (w4.setCell ⟨w.heap.size + 1 + 1, 2, none⟩ (.int .i64 P)) (w.heap.size + 1 + 1) 33 (SPC V N P 0 0 (.slice none 0 0) 0 (.slice none 0 0)) := B2.out.put 2 _
  have hx2 : Box ((w4.setCell ⟨w.heap.size + 1 + 1, 2, none⟩ (.int .i64 P)).setCell ⟨w.heap.size + 1 + 1, 3, none⟩ (.int .i64 M)) (w.heap.size + 1 + 1) 33 (SPC V N P M 0 (.slice none 0 0) 0 (.slice none 0 0)) := hx1.put 3 _
  have hx3 : Box (((w4.setCell ⟨w.heap.size + 1 + 1, 2, none⟩ (.int .i64 P)).setCell ⟨w.heap.size + 1 + 1, 3, none⟩ (.int .i64 M)).setCell ⟨w.heap.size + 1 + 1, 4, none⟩ (.int .i64 K)) (w.heap.size + 1 + 1) 33 (SPC V N P M K (.slice none 0 0) 0 (.slice none 0 0)) := hx2.put 4 _
  have hx4 : Box ((((w4.setCell ⟨w.heap.size + 1 + 1, 2, none⟩ (.int .i64 P)).setCell ⟨w.heap.size + 1 + 1, 3, none⟩ (.int .i64 M)).setCell ⟨w.heap.size + 1 + 1, 4, none⟩ (.int .i64 K)).setCell ⟨w.heap.size + 1 + 1, 5, none⟩ (.slice A1 L.length c1)) (w.heap.size + 1 + 1) 33 (SPC V N P M K (.slice A1 L.length c1) 0 (.slice none 0 0)) := hx3.put 5 _
  have hz1 := B1.out.grown HG5.out (by simp)
  have hw5 := HB.out.grown HG5.out HB.out.size (fun j e => by cases e; omega)
  have H15 := Lib.hid (own_pastS H1.out HG5.out (by omega))
  have hs5 := HG5.out.size
  clear hx1 hx2 hx3
  clear HG5
  generalize (((w4.setCell ⟨w.heap.size + 1 + 1, 2, none⟩ (.int .i64 P)).setCell ⟨w.heap.size + 1 + 1, 3, none⟩ (.int .i64 M)).setCell ⟨w.heap.size + 1 + 1, 4, none⟩ (.int .i64 K)).setCell ⟨w.heap.size + 1 + 1, 5, none⟩ (.slice A1 L.length c1) = w5 at *
  refine (toBits_any H B d Q w5 (HQ.out.below hw5) hm).mono ?_
  rintro e w6 ⟨rfl, ho2, hb6⟩
  have hx6 := hx4.below hb6 hx4.lt
  have hz6 := hz1.below hb6 hz1.lt
  have hl2 := hx4.lt
  have H1 := Lib.hid (own_low H15.out hb6 (Nat.le_refl _))
  have HK := Lib.hid fun k hk => (H15.out.lt k hk).2
  have H2 := Lib.hid ho2
  have hs6 := hb6.size
  have HB6 := Lib.hid (hw5.trans (hb6.mono hw5.size))
  have HZ : Hid (w.heap.size + 1 + 1 < w3.heap.size ∧ w3.heap.size ≤ w5.heap.size ∧ w5.heap.size ≤ w6.heap.size) := Lib.hid (by omega)
  clear ho2 hb6 hx4 hz1 H15 hw5 B0 B1 B2 HB hz3 hz4 hs5
  generalize (some ⟨w5.heap.size + 3, 0, none⟩ : Option Addr) = A2 at *
  obtain ⟨⟨q0, q1, q2, q3, q4, q5, q6, q7⟩, ⟨y0, y1, y2, y3, y4, y5, y6, y7⟩, ql2⟩ := box_eight hx6
  obtain ⟨⟨x0, x1, x2, x3, x4, x5, x6, x7⟩, ⟨z0, z1, z2, z3, z4, z5, z6, z7⟩, xl⟩ := box_eight hz6
  clear hx6 hz6
  go_wp2
  refine bodyPost_ret (v := SP V N P M K (.slice A1 L.length c1) H (.slice A2 Q.length Q.length)) (by simp [results, Tryd.results32, go_sem, x0, x1, x2, x3, x4, x5, x6, x7]) rfl ⟨A1, c1, A2, Q.length, rfl, ?_⟩
  have hg7 := (grown_set w6 (w.heap.size + 1 + 1) 6 (.int .i64 H)).trans (grown_set _ (w.heap.size + 1 + 1) 7 (.slice A2 Q.length Q.length))
  have hg8 := put8_grown ((w6.setCell ⟨w.heap.size + 1 + 1, 6, none⟩ (.int .i64 H)).setCell ⟨w.heap.size + 1 + 1, 7, none⟩ (.slice A2 Q.length Q.length)) (w.heap.size + 1) (.int .i64 V) (.int .i64 N) (.int .i64 P) (.int .i64 M) (.int .i64 K) (.slice A1 L.length c1) (.int .i64 H) (.slice A2 Q.length Q.length)
  have hz := HZ.out
  have hs7 := hg7.size
  have hs8 := hg8.size
  have hb7 := HB6.out.grown hg7 HB6.out.size (fun j e => by cases e; omega)
  exact ⟨w5.heap.size, by omega, Nat.le_trans (Nat.le_trans HZ.out.2.2 hs7) hs8, own_mono (own_pastS (own_pastS H1.out hg7 (by omega)) hg8 (by omega)) (by omega), HK.out, own_pastS (own_pastS H2.out hg7 (by omega)) hg8 (by omega), hb7.grown hg8 hb7.size (fun j e => by cases e; omega)⟩

end Go.Proofs.YtlbnngolcoefdaaDoor
