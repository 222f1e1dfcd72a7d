/- SparseList of the program: the library's Collect over the iterator. -/
import Derived.Test.YtlbnngolcoefdaaDoorSp17
import Derived.OwnWalkIn
namespace Go.Proofs.YtlbnngolcoefdaaDoor
open Go.RowKit Go.Shelf
set_option maxRecDepth 100000
attribute [local go_sem] Oper.semAt_some

/-- A row of numbers and a box of a slice are written: blocks of the three types are not. -/
theorem keepT_push {W w1 : World} {B base k : Nat} {v v' : Value} {xs : List Value} {tmp : Obj} (hv : Boxed W B 24 v) (hrow : W.ownsRow base 3 1 v k xs) (hgrow : (W.alloc tmp).grownBy w1 v.ownBlock) : KeepT W (w1.setCell ⟨B, 0, none⟩ v') := by
  intro j cs t f hj ht
  have hjl := (Array.getElem?_eq_some_iff.1 hj).1
  have h1 : (W.alloc tmp).heap[j]? = W.heap[j]? := Below.heap_alloc W tmp j hjl
  have hne : some j ≠ v.ownBlock := fun e => by
    rcases hrow.2 with ⟨rfl, _⟩ | ⟨g, cap, cur, rfl, _, hgb, _⟩
    · simp [Value.ownBlock] at e
    · obtain rfl : j = g := by simpa [Value.ownBlock] using e
      rw [hgb] at hj
      cases hj
      rcases ht with h | h | h <;> exact absurd h (by decide)
  have hB : j ≠ B := fun e => by
    subst e
    rw [show W.heap[j]? = _ from hv] at hj
    cases hj
    rcases ht with h | h | h <;> exact absurd h (by decide)
  exact (Below.heap_setCell w1 ⟨B, 0, none⟩ v' j hB).trans ((hgrow.block j (by simp; omega) hne).trans h1)

set_option maxHeartbeats 2000000 in
theorem appendSeqO (gf : Nat) (lb : Array Value) (eg : ∀ args w, (callFunc gf args).run Tryd.prog w = .ok (.enter gf args) w) (B : List Int) (n₀ N : Nat) (w : World) (hn₀ : n₀ ≤ w.heap.size) (hN : N ≤ 5000)
    (hseq : SeqO Tryd.prog gf lb (fun x : Int => #[Value.int .i64 x]) (KpB n₀) (fun ys => ys = B) (fun pre => pre <+: B) N w) :
    Calls Tryd.prog 97 #[.slice none 0 0, .func (.func gf) #[] lb] w (NewI w B) := by
  obtain ⟨i0, hi, hz0, hz1, hz2⟩ := info_parts Tryd.infoInt
  refine (callsIn_wide (n := 0)).1 ?_
  refine callsIn_of_wp_marks Tryd.func97 rfl trivial ?_ rfl
  simp only [Tryd.ntmps97, List.size_toArray, List.length_cons, List.length_nil, Nat.reduceAdd, Nat.reduceSub, Array.replicate_succ, Array.replicate_zero, List.push_toArray, List.append_toArray, List.nil_append, List.cons_append]
  gi_wp2
  have b0 := Boxed.new w 24 (.slice none 0 0)
  have hB0 : Below w.heap.size w (w.alloc (.cells #[.slice none 0 0] 24)) := (Below.refl _ w).alloc (Nat.le_refl _) _
  refine wpIn_range_O (n := 0) (gf := gf) (lb := lb) rfl eg hseq kp_t (kp_b (by simp; omega)) hB0 (fun _ => rfl)
    (fun pre W => (∃ v, Boxed W w.heap.size 24 v ∧ W.ownsRow w.heap.size 3 1 v pre.length (pre.map I) ∧ True) ∧ Below w.heap.size w W) (fun _ _ _ => False)
    (OwnFrom.and ((holdsRow_own w.heap.size w.heap.size 24 3 1 (fun pre : List Int => pre.length) (fun pre => pre.map I) (fun _ _ => True)).from _) (ownFrom_below (Nat.le_refl _) (by simp)))
    (fun c => fun s A B row hs hg hr => hs)
    ⟨⟨_, b0, World.ownsRow_nil _ _ _ _, trivial⟩, hB0⟩
    (fun x => { tmps := #[.slice none 0 0, .func (.func gf) #[] lb, .pointer (some ⟨w.heap.size, 0, none⟩), undef, .slice none 0 0, .int .i64 x, .func (.func gf) #[] lb, .int .i64 x, undef, undef, undef, undef, undef], defers := [] }) ?assign ?body ?done ?stop
  case assign =>
    intro l x W K hK
    gi_wp2
    exact hK
  case body =>
    rintro l pre x W ⟨⟨v, bv, hrow, _⟩, hB⟩ hpl
    have hcv := bv.cell
    obtain ⟨Av, cv, rfl⟩ := own_slice hrow
    have BV := Lib.hid bv
    have HR := Lib.hid hrow
    have HB := Lib.hid hB
    have hwl : w.heap.size ≤ W.heap.size := hB.size
    clear bv hrow hB
    gi_wp2_with (gi_at_builtin; refine wpListIn_append_own _ rfl _ _ 24 rfl w.heap.size 3 i0 (.int .i64 0) 1 8 Tryd.underlying24 hi hz0 hz1 hz2 rfl (by decide) _ _ _ rfl (HR.out.alloc _) ⟨W.heap.size, 0, none⟩ 1 1 [.int .i64 x] rfl rfl (cell_one_new _ _ _) (ints_oneCell .i64 [_]) (by unfold maxLen; omega) (by omega) (by simp; omega) ?_)
    intro v' w3 hown' hg3 _
    obtain ⟨g, cap, rfl⟩ := ownsRow_succ hown'
    obtain ⟨a1, a2, a3, a4, a5⟩ := Boxed.appended BV.out (by decide) HR.out hwl (Nat.le_refl _) hown' hg3
    have h6 := keepT_push (v' := .slice (some ⟨g, 0, none⟩) (pre.length + 1) cap) BV.out HR.out hg3
    have hc1 := a1.cell
    have hf1 := a1.frozen
    have HA := Lib.hid (And.intro a2 (And.intro a3 (And.intro a4 (And.intro a5 h6))))
    clear a1 a2 a3 a4 a5 h6 hown' hg3
    gi_wp2
    refine ⟨HA.out.2.2.1.from _, ⟨HA.out.2.2.2.1.mono hn₀, HA.out.2.2.2.2⟩, ⟨_, HA.out.1, ?_, trivial⟩, HB.out.trans HA.out.2.2.2.1⟩
    rw [List.length_append, List.map_append]
    exact HA.out.2.1
  case done =>
    rintro D ys W hD rfl ⟨⟨v, bv, hrow, _⟩, hB⟩ hK
    have hcv := bv.cell
    obtain ⟨Av, cv, rfl⟩ := own_slice hrow
    have HO := Lib.hid (ownsRow_putObj hrow (.deferred none) hK rfl)
    have HB := Lib.hid (hB.trans (belowK_b (w := w) (Nat.le_refl _) W D _ (.deferred none) (by simp at hD; omega) hK rfl rfl))
    clear bv hrow hB
    gi_wp2
    refine ⟨by simp, .inl ⟨_, _, rfl, run_takeDeferred hK, ?_⟩⟩
    exact ⟨_, results_tmp rfl _ _ _, Av, cv, rfl, HO.out, HB.out⟩
  case stop =>
    rintro D c pre W _ _ h _
    exact h.elim

set_option maxHeartbeats 800000 in
theorem collectO (gf : Nat) (lb : Array Value) (eg : ∀ args w, (callFunc gf args).run Tryd.prog w = .ok (.enter gf args) w) (B : List Int) (n₀ N : Nat) (w : World) (hn₀ : n₀ ≤ w.heap.size) (hN : N ≤ 5000)
    (hseq : SeqO Tryd.prog gf lb (fun x : Int => #[Value.int .i64 x]) (KpB n₀) (fun ys => ys = B) (fun pre => pre <+: B) N w) :
    Calls Tryd.prog 62 #[.func (.func gf) #[] lb] w (NewI w B) := by
  have C := Lib.hid (appendSeqO gf lb eg B n₀ N w hn₀ hN hseq)
  clear hseq
  go_enter Tryd.func62, Tryd.ntmps62
  go_wp2_with fail
  refine C.out.mono ?_
  rintro e w2 ⟨Al, cl, rfl, ho, hb⟩
  have HO := Lib.hid ho
  have HB := Lib.hid hb
  clear ho hb
  go_wp2
  go_ret
  exact ⟨Al, cl, rfl, HO.out, HB.out⟩

set_option maxHeartbeats 1600000 in
theorem implSparseList_any (V N P M K H : Int) (A A' : Option Addr) (c c' : Nat) (Ws Vs : List Nat) (w : World) (hL : Lies w U A Ws) (hL' : Lies w U A' Vs) (hw : ∀ x ∈ Ws, x < 2 ^ 64) (hw' : ∀ x ∈ Vs, x < 2 ^ 64) (hN : N ≤ 9223372036854775807) (hlc : Vs.length ≤ c' ∧ c' ≤ 9223372036854775807) :
    Calls Tryd.prog 15 #[SP V N P M K (.slice A Ws.length c) H (.slice A' Vs.length c')] w (NewI w (slV V N P M K Ws H Vs)) := by
  have HL := Lib.hid hL
  have HL' := Lib.hid hL'
  have HW := Lib.hid hw
  have HW' := Lib.hid hw'
  clear hL hL' hw hw'
  go_enter Tryd.func15, Tryd.ntmps15
  go_wp2_with fail
  have sc := (Scene.start w).box 33 (SPC V N P M K (.slice A Ws.length c) H (.slice A' Vs.length c'))
  generalize w.alloc (Obj.cells (SPC V N P M K (.slice A Ws.length c) H (.slice A' Vs.length c')) 33) = w1 at *
  refine (implSparseOk_any V N P M K H A A' c c' Ws Vs _ (sc.liesOld HL.out) (sc.liesOld HL'.out) HW.out HW'.out hN hlc).mono ?_
  rintro e w2 ⟨rfl, hb⟩
  replace sc := sc.step hb
  clear hb
  obtain ⟨⟨p0, p1, p2, p3, p4, p5, p6, p7⟩, _, hbl⟩ := box_eight (sc.getBox 0 rfl)
  cases hok : okS V N P M K Ws H Vs
  · have HB := Lib.hid sc.below
    have HV : Hid (slV V N P M K Ws H Vs = []) := Lib.hid (by unfold slV; rw [hok]; rfl)
    clear sc
    go_wp2
    go_ret
    rw [HV.out]
    exact ⟨none, 0, rfl, World.ownsRow_nil _ _ _ _, HB.out⟩
  · have HV : Hid (slV V N P M K Ws H Vs = splV P M K Ws H Vs) := Lib.hid (by unfold slV; rw [hok]; rfl)
    obtain ⟨wd, hn, rfl, rfl, h20, h5, hp, hob, hc, hs, hBl⟩ := okS_parts hok
    go_wp2_with fail
    clear p0 p1 p2 p3 p4 p5 p6 p7 hbl
    refine (numbersOf_any _ _ _ _ _ _ _ _ _ _ _ _ _).mono ?_
    rintro e w' ⟨rfl, rfl⟩
    replace sc := sc.box 33 (SPC V N wd M K (.slice A Ws.length c) hn (.slice A' Vs.length c'))
    go_wp2_with fail
    generalize w2.alloc (Obj.cells (SPC V N wd M K (.slice A Ws.length c) hn (.slice A' Vs.length c')) 33) = w4 at *
    have hcn : cnt Vs 1 hn ≤ 5000 := Nat.le_trans (cnt_le _ _ _) h5
    refine (collectO 98 #[.pointer (some ⟨w2.heap.size, 0, none⟩)] (enters_of Tryd.func98 (by kernel_rfl) rfl) (splV wd M K Ws hn Vs) w4.heap.size (cnt Vs 1 hn) w4 (Nat.le_refl _) hcn
      (numbersO w2.heap.size w4.heap.size c c' V N wd M K A A' hn Ws Vs hp hob HW.out HW'.out h5 hc w4 (Nat.le_refl _) (sc.getBox 0 rfl) (sc.liesOld HL.out) (sc.liesOld HL'.out))).mono ?_
    rintro e w5 ⟨Al, cl, rfl, ho, hb5⟩
    have HO := Lib.hid (own_mono ho sc.below.size)
    have HB := Lib.hid (below_then sc.below hb5)
    clear sc ho hb5 hok hp hob hs hc
    generalize splV (wd : Int) M K Ws (hn : Int) Vs = B at *
    go_wp2
    go_ret
    rw [HV.out]
    exact ⟨Al, cl, rfl, HO.out, HB.out⟩

end Go.Proofs.YtlbnngolcoefdaaDoor
