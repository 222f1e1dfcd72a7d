/- The laws' copy of a sparse list. -/
import Derived.Test.YtlbnngolcoefdaaSpLaws2
import Derived.Test.YtlbnngolcoefdaaSp14
namespace Go.Proofs.Ytlbnngolcoefdaa
open Go.RowKit
set_option maxRecDepth 100000

/-- A new sparse list is returned, alone. -/
def NewSparse1 (w : World) (V N P M K : Int) (Ws : List Nat) (H : Int) (Vs : List Nat) (e : Ending) (w' : World) : Prop :=
  ∃ A c A' c', e = .returned (SP V N P M K (.slice A Ws.length c) H (.slice A' Vs.length c')) ∧ TwoRows w w' (.slice A Ws.length c) Ws (.slice A' Vs.length c') Vs

set_option maxHeartbeats 1600000 in
theorem toSparse_new (V N P M K H : Int) (A : Option Addr) (c : Nat) (L : List Nat) (B : Option Addr) (d : Nat) (Q : List Nat) (w : World) (hL : Lies w U A L) (hQ : Lies w U B Q) (hn : L.length ≤ 17592186044416) (hm : Q.length ≤ 17592186044416) :
    Calls Try.prog 10 #[SP V N P M K (.slice A L.length c) H (.slice B Q.length d)] w (NewSparse1 w V N P M K L H Q) := by
  have HL := Lib.hid hL
  have HQ := Lib.hid hQ
  clear hL hQ
  go_enter Try.func10, Try.ntmps10
  go_wp2_with fail
  have sc := (((Scene.start w).box 28 (SPC V N P M K (.slice A L.length c) H (.slice B Q.length d))).box 36 SPZ).box 36 (SPC V N 0 0 0 (.slice none 0 0) 0 (.slice none 0 0))
  simp only [World.size_alloc] at sc
  have hz3 : ((((w.alloc (Obj.cells (SPC V N P M K (.slice A L.length c) H (.slice B Q.length d)) 28)).alloc (Obj.cells SPZ 36)).alloc (Obj.cells (SPC V N 0 0 0 (.slice none 0 0) 0 (.slice none 0 0)) 36))).heap.size = w.heap.size + 1 + 1 + 1 := by simp
  generalize (((w.alloc (Obj.cells (SPC V N P M K (.slice A L.length c) H (.slice B Q.length d)) 28)).alloc (Obj.cells SPZ 36)).alloc (Obj.cells (SPC V N 0 0 0 (.slice none 0 0) 0 (.slice none 0 0)) 36)) = w3 at *
  refine (toPacked_new P M K A c L _ (sc.liesOld HL.out) hn).mono ?_
  rintro e w4 ⟨A1, c1, rfl, ho1, hb4⟩
  replace sc := sc.step hb4
  have hz4 := hb4.size
  have H1 := Lib.hid ho1
  clear ho1 hb4
  have B0 := Lib.hid (sc.getBox 2 rfl)
  have B1 := Lib.hid (sc.getBox 1 rfl)
  have B2 := Lib.hid (sc.getBox 0 rfl)
  have HB := Lib.hid sc.below
  obtain ⟨⟨p0, p1, p2, p3, p4, p5, p6, p7⟩, _, pl⟩ := box_eight B0.out
  obtain ⟨⟨q0, q1, q2, q3, q4, q5, q6, q7⟩, ⟨y0, y1, y2, y3, y4, y5, y6, y7⟩, ql⟩ := box_eight B2.out
  clear sc
  have hg5 : w4.grownBy ((((w4.setCell ⟨w.heap.size + 1 + 1, 2, none⟩ (.int .i64 P)).setCell ⟨w.heap.size + 1 + 1, 3, none⟩ (.int .i64 M)).setCell ⟨w.heap.size + 1 + 1, 4, none⟩ (.int .i64 K)).setCell ⟨w.heap.size + 1 + 1, 5, none⟩ (.slice A1 L.length c1)) (some (w.heap.size + 1 + 1)) :=
    (((grown_set w4 (w.heap.size + 1 + 1) 2 (.int .i64 P)).trans (grown_set _ _ 3 (.int .i64 M))).trans (grown_set _ _ 4 (.int .i64 K))).trans (grown_set _ _ 5 (.slice A1 L.length c1))
  have HG5 := Lib.hid hg5
  clear hg5
  go_wp2_with fail
  clear p0 p1 p2 p3 p4 p5 p6 p7 q0 q1 q2 q3 q4 q5 q6 q7 y0 y1 y2 y3 y4 y5 y6 y7
  have hx1 : Box (w4.setCell ⟨w.heap.size + 1 + 1, 2, none⟩ (.int .i64 P)) (w.heap.size + 1 + 1) 36 (SPC V N P 0 0 (.slice none 0 0) 0 (.slice none 0 0)) := B2.out.put 2 _
  have hx2 : Box ((w4.setCell ⟨w.heap.size + 1 + 1, 2, none⟩ (.int .i64 P)).setCell ⟨w.heap.size + 1 + 1, 3, none⟩ (.int .i64 M)) (w.heap.size + 1 + 1) 36 (SPC V N P M 0 (.slice none 0 0) 0 (.slice none 0 0)) := hx1.put 3 _
  have hx3 : Box (((w4.setCell ⟨w.heap.size + 1 + 1, 2, none⟩ (.int .i64 P)).setCell ⟨w.heap.size + 1 + 1, 3, none⟩ (.int .i64 M)).setCell ⟨w.heap.size + 1 + 1, 4, none⟩ (.int .i64 K)) (w.heap.size + 1 + 1) 36 (SPC V N P M K (.slice none 0 0) 0 (.slice none 0 0)) := hx2.put 4 _
  have hx4 : Box ((((w4.setCell ⟨w.heap.size + 1 + 1, 2, none⟩ (.int .i64 P)).setCell ⟨w.heap.size + 1 + 1, 3, none⟩ (.int .i64 M)).setCell ⟨w.heap.size + 1 + 1, 4, none⟩ (.int .i64 K)).setCell ⟨w.heap.size + 1 + 1, 5, none⟩ (.slice A1 L.length c1)) (w.heap.size + 1 + 1) 36 (SPC V N P M K (.slice A1 L.length c1) 0 (.slice none 0 0)) := hx3.put 5 _
  have hz1 := B1.out.grown HG5.out (by simp)
  have hw5 := HB.out.grown HG5.out HB.out.size (fun j e => by cases e; omega)
  have H15 := Lib.hid (own_pastS H1.out HG5.out (by omega))
  have hs5 := HG5.out.size
  clear hx1 hx2 hx3
  clear HG5
  generalize (((w4.setCell ⟨w.heap.size + 1 + 1, 2, none⟩ (.int .i64 P)).setCell ⟨w.heap.size + 1 + 1, 3, none⟩ (.int .i64 M)).setCell ⟨w.heap.size + 1 + 1, 4, none⟩ (.int .i64 K)).setCell ⟨w.heap.size + 1 + 1, 5, none⟩ (.slice A1 L.length c1) = w5 at *
  refine (toBits_any H B d Q w5 (HQ.out.below hw5) hm).mono ?_
  rintro e w6 ⟨rfl, ho2, hb6⟩
  have hx6 := hx4.below hb6 hx4.lt
  have hz6 := hz1.below hb6 hz1.lt
  have hl2 := hx4.lt
  have H1 := Lib.hid (own_low H15.out hb6 (Nat.le_refl _))
  have HK := Lib.hid fun k hk => (H15.out.lt k hk).2
  have H2 := Lib.hid ho2
  have hs6 := hb6.size
  have HB6 := Lib.hid (hw5.trans (hb6.mono hw5.size))
  have HZ : Hid (w.heap.size + 1 + 1 < w3.heap.size ∧ w3.heap.size ≤ w5.heap.size ∧ w5.heap.size ≤ w6.heap.size) := Lib.hid (by omega)
  clear ho2 hb6 hx4 hz1 H15 hw5 B0 B1 B2 HB hz3 hz4 hs5
  generalize (some ⟨w5.heap.size + 3, 0, none⟩ : Option Addr) = A2 at *
  obtain ⟨⟨q0, q1, q2, q3, q4, q5, q6, q7⟩, ⟨y0, y1, y2, y3, y4, y5, y6, y7⟩, ql2⟩ := box_eight hx6
  obtain ⟨⟨x0, x1, x2, x3, x4, x5, x6, x7⟩, ⟨z0, z1, z2, z3, z4, z5, z6, z7⟩, xl⟩ := box_eight hz6
  clear hx6 hz6
  go_wp2
  refine bodyPost_ret (v := SP V N P M K (.slice A1 L.length c1) H (.slice A2 Q.length Q.length)) (by simp [results, Try.results10, go_sem, x0, x1, x2, x3, x4, x5, x6, x7]) rfl ⟨A1, c1, A2, Q.length, rfl, ?_⟩
  have hg7 := (grown_set w6 (w.heap.size + 1 + 1) 6 (.int .i64 H)).trans (grown_set _ (w.heap.size + 1 + 1) 7 (.slice A2 Q.length Q.length))
  have hg8 := put8_grown ((w6.setCell ⟨w.heap.size + 1 + 1, 6, none⟩ (.int .i64 H)).setCell ⟨w.heap.size + 1 + 1, 7, none⟩ (.slice A2 Q.length Q.length)) (w.heap.size + 1) (.int .i64 V) (.int .i64 N) (.int .i64 P) (.int .i64 M) (.int .i64 K) (.slice A1 L.length c1) (.int .i64 H) (.slice A2 Q.length Q.length)
  have hz := HZ.out
  have hs7 := hg7.size
  have hs8 := hg8.size
  have hb7 := HB6.out.grown hg7 HB6.out.size (fun j e => by cases e; omega)
  exact ⟨w5.heap.size, by omega, Nat.le_trans (Nat.le_trans HZ.out.2.2 hs7) hs8, own_mono (own_pastS (own_pastS H1.out hg7 (by omega)) hg8 (by omega)) (by omega), HK.out, own_pastS (own_pastS H2.out hg7 (by omega)) hg8 (by omega), hb7.grown hg8 hb7.size (fun j e => by cases e; omega)⟩

end Go.Proofs.Ytlbnngolcoefdaa
