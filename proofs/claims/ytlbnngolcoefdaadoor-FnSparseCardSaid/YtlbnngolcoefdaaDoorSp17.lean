/- SparseRank of the program. -/
import Derived.Test.YtlbnngolcoefdaaDoorSp16
namespace Go.Proofs.YtlbnngolcoefdaaDoor
open Go.RowKit Go.Shelf
set_option maxRecDepth 100000
attribute [local go_sem] Oper.semAt_some

theorem filter_all {x : Int} {B : List Int} (h : ∀ y ∈ B, y < x) : (B.filter fun y => decide (y < x)) = B := by
  rw [List.filter_eq_self]
  intro y hy
  exact decide_eq_true (h y hy)

theorem filter_cut {u x y : Int} {B pre : List Int} (hs : srt u 0 B = true) (hp : (pre ++ [y]) <+: B) (hl : ∀ z ∈ pre, z < x) (hy : ¬ y < x) : (B.filter fun z => decide (z < x)) = pre := by
  obtain ⟨rest, rfl⟩ := hp
  rw [List.append_assoc, List.filter_append, filter_all hl]
  have h0 : (([y] ++ rest).filter fun z => decide (z < x)) = [] := by
    rw [List.filter_eq_nil_iff]
    intro z hz
    rw [List.singleton_append] at hz
    obtain ⟨j, hj⟩ := List.mem_iff_getElem?.1 hz
    have h1 : (pre ++ [y] ++ rest)[pre.length]? = some y := by simp
    have h2 : (pre ++ [y] ++ rest)[pre.length + j]? = some z := by
      rw [List.append_assoc, List.getElem?_append_right (by omega), Nat.add_sub_cancel_left, List.singleton_append]
      exact hj
    have := srt_mono hs pre.length (pre.length + j) y z (by omega) h1 h2
    simp only [decide_eq_true_iff]
    omega
  rw [h0, List.append_nil]

/-- What SparseRank holds while it ranges: x and the count. -/
def RankI (w : World) (x : Int) (cb : Nat) (pre : List Int) (W : World) : Prop :=
  ((∀ y ∈ pre, y < x) ∧ Boxed W (w.heap.size + 1) 3 (.int .i64 x) ∧ Boxed W cb 3 (.int .i64 (pre.length : Nat))) ∧ Below w.heap.size w W
def RankX (w : World) (x : Int) (cb : Nat) (c : Code) (pre : List Int) (W : World) : Prop :=
  (c = .exit 0 ∧ (∃ pre' y, pre = pre' ++ [y] ∧ (∀ z ∈ pre', z < x) ∧ ¬ y < x ∧ Boxed W cb 3 (.int .i64 (pre'.length : Nat)))) ∧ Below w.heap.size w W

set_option maxHeartbeats 2000000 in
theorem implSparseRank_any (V N P M K H : Int) (A A' : Option Addr) (c c' : Nat) (Ws Vs : List Nat) (x : Int) (w : World) (hL : Lies w U A Ws) (hL' : Lies w U A' Vs) (hw : ∀ x ∈ Ws, x < 2 ^ 64) (hw' : ∀ x ∈ Vs, x < 2 ^ 64) (hN : N ≤ 9223372036854775807) (hlc : Vs.length ≤ c' ∧ c' ≤ 9223372036854775807) :
    Calls Tryd.prog 17 #[SP V N P M K (.slice A Ws.length c) H (.slice A' Vs.length c'), .int .i64 x] w fun e w' => e = .returned (.int .i64 (srV V N P M K Ws H Vs x)) ∧ Below w.heap.size w w' := by
  have HL := Lib.hid hL
  have HL' := Lib.hid hL'
  have HW := Lib.hid hw
  have HW' := Lib.hid hw'
  clear hL hL' hw hw'
  refine (callsIn_wide (n := 0)).1 ?_
  refine callsIn_of_wp_marks Tryd.func17 rfl trivial ?_ rfl
  simp only [Tryd.ntmps17, List.size_toArray, List.length_cons, List.length_nil, Nat.reduceAdd, Nat.reduceSub, Array.replicate_succ, Array.replicate_zero, List.push_toArray, List.append_toArray, List.nil_append, List.cons_append]
  gi_wp2_with fail
  have sc := ((Scene.start w).box 33 (SPC V N P M K (.slice A Ws.length c) H (.slice A' Vs.length c'))).box 3 #[.int .i64 x]
  rw [World.size_alloc] at sc
  generalize (w.alloc (Obj.cells (SPC V N P M K (.slice A Ws.length c) H (.slice A' Vs.length c')) 33)).alloc (Obj.cells #[.int .i64 x] 3) = w1 at *
  refine ⟨trivial, rfl, (callsIn_wide.2 (implSparseOk_any V N P M K H A A' c c' Ws Vs _ (sc.liesOld HL.out) (sc.liesOld HL'.out) HW.out HW'.out hN hlc)).mono ?_⟩
  rintro e w2 ⟨rfl, hb⟩
  replace sc := sc.step hb
  clear hb
  obtain ⟨⟨p0, p1, p2, p3, p4, p5, p6, p7⟩, _, hbl⟩ := box_eight (sc.getBox 1 rfl)
  cases hok : okS V N P M K Ws H Vs
  · have HB := Lib.hid sc.below
    have HV : Hid (srV V N P M K Ws H Vs x = -1) := Lib.hid (by unfold srV; rw [hok]; rfl)
    clear sc
    gi_wp2
    exact ⟨_, results_tmp rfl _ _ _, by rw [HV.out]; rfl, HB.out⟩
  · have HV : Hid (srV V N P M K Ws H Vs x = (((splV P M K Ws H Vs).filter fun y => decide (y < x)).length : Int)) := Lib.hid (by unfold srV; rw [hok]; rfl)
    obtain ⟨wd, hn, rfl, rfl, h20, h5, hp, hob, hc, hs, hBl⟩ := okS_parts hok
    gi_wp2_with fail
    clear p0 p1 p2 p3 p4 p5 p6 p7 hbl
    refine ⟨trivial, rfl, (callsIn_wide.2 (numbersOf_any _ _ _ _ _ _ _ _ _ _ _ _ _)).mono ?_⟩
    rintro e w' ⟨rfl, rfl⟩
    replace sc := (sc.box 3 #[.int .i64 0]).box 33 (SPC V N wd M K (.slice A Ws.length c) hn (.slice A' Vs.length c'))
    rw [World.size_alloc] at sc
    gi_wp2
    have hz4 : ((w2.alloc (Obj.cells #[.int .i64 0] 3)).alloc (Obj.cells (SPC V N wd M K (.slice A Ws.length c) hn (.slice A' Vs.length c')) 33)).heap.size = w2.heap.size + 2 := by simp
    generalize (w2.alloc (Obj.cells #[.int .i64 0] 3)).alloc (Obj.cells (SPC V N wd M K (.slice A Ws.length c) hn (.slice A' Vs.length c')) 33) = w4 at *
    have bC : Boxed w4 w2.heap.size 3 (.int .i64 0) := sc.getBox 1 rfl
    have bX : Boxed w4 (w.heap.size + 1) 3 (.int .i64 x) := sc.getBox 2 rfl
    have hB0 := sc.below
    have hcb : w.heap.size + 1 < w2.heap.size := by
      have h1 := (sc.items)
      obtain ⟨_, a1, a2, _, b1, b2, _, c1, c2, _⟩ := h1
      have := c2.2.2
      have := b2.2.1
      omega
    refine wpIn_range_O (n := 0) (gf := 98) (lb := #[.pointer (some ⟨w2.heap.size + 1, 0, none⟩)]) rfl (enters_of Tryd.func98 (by kernel_rfl) rfl)
      (numbersO (w2.heap.size + 1) w.heap.size c c' V N wd M K A A' hn Ws Vs hp hob HW.out HW'.out h5 hc w4 hB0.size (sc.getBox 0 rfl) (fun j y hy => by
        obtain ⟨b, o, h1, h2, h3⟩ := HL.out j y hy
        exact ⟨b, o, h1, h2, (hB0.cell (p := ⟨b, o + j, none⟩) h2).trans h3⟩) (fun j y hy => by
        obtain ⟨b, o, h1, h2, h3⟩ := HL'.out j y hy
        exact ⟨b, o, h1, h2, (hB0.cell (p := ⟨b, o + j, none⟩) h2).trans h3⟩)) kp_t (kp_b hB0.size) (Below.refl _ w4) (fun _ => rfl)
      (RankI w x w2.heap.size) (RankX w x w2.heap.size)
      (OwnFrom.and (fun s A B row hs hg hr => ⟨hs.1, own_boxed (s := s) hs.2.1 hg hr, own_boxed (s := s) hs.2.2 hg hr⟩) (ownFrom_below (Nat.le_refl _) hB0.size))
      (fun cc => OwnFrom.and (fun s A B row hs hg hr => ⟨hs.1, by
        obtain ⟨p1, y, e1, e2, e3, e4⟩ := hs.2
        exact ⟨p1, y, e1, e2, e3, own_boxed (s := s) e4 hg hr⟩⟩) (ownFrom_below (Nat.le_refl _) hB0.size))
      ⟨⟨by simp, bX, bC⟩, hB0⟩
      (fun y => { tmps := #[SP V N wd M K (.slice A Ws.length c) hn (.slice A' Vs.length c'), .int .i64 x, .pointer (some ⟨w.heap.size, 0, none⟩), .pointer (some ⟨w.heap.size + 1, 0, none⟩), .int .i64 0, .pointer (some ⟨w2.heap.size, 0, none⟩), .int .i64 y, .agg (SPC V N wd M K (.slice A Ws.length c) hn (.slice A' Vs.length c')), .bool true, .bool false, .agg (SPC V N wd M K (.slice A Ws.length c) hn (.slice A' Vs.length c')), .func (.func 98) #[] #[.pointer (some ⟨w2.heap.size + 1, 0, none⟩)], .int .i64 y, undef, undef, undef, undef, undef, undef], defers := [] }) ?assign ?body ?done ?stop
    case assign =>
      intro l y W K hK
      gi_wp2
      exact hK
    case body =>
      rintro l pre y W ⟨⟨hlt, bx, bc⟩, hB⟩ hpl
      have hcx := bx.cell
      have hcc := bc.cell
      have hfc := bc.frozen
      have BX := Lib.hid bx
      have BC := Lib.hid bc
      have HB := Lib.hid hB
      have HLt := Lib.hid hlt
      have hple : pre.length < 5000 := Nat.lt_of_lt_of_le hpl (Nat.le_trans (cnt_le _ _ _) h5)
      clear bx bc hB hlt hpl
      by_cases hyx : x ≤ y
      · have t1 : decide (x ≤ y) = true := by simpa using hyx
        gi_wp2
        exact ⟨KeepsFrom.refl _ _, ⟨rfl, pre, y, rfl, HLt.out, by omega, BC.out⟩, HB.out⟩
      · have t1 : decide (x ≤ y) = false := by simpa using hyx
        gi_wp2
        have hb2 := BC.out.set (.int .i64 ((pre.length : Int) + 1))
        refine ⟨(KeepsOthers.setCell _ _ _).from _, kp_set BC.out (by decide) (by decide) (by decide) (by omega) _, ⟨fun z hz => ?_, BX.out.other (by omega) _, ?_⟩, HB.out.setCell (p := ⟨w2.heap.size, 0, none⟩) (by show w.heap.size ≤ w2.heap.size; omega) _⟩
        · rcases List.mem_append.1 hz with h | h
          · exact HLt.out z h
          · obtain rfl : z = y := by simpa using h
            omega
        · rw [List.length_append]
          exact hb2
    case done =>
      rintro D ys W hD rfl ⟨⟨hlt, bx, bc⟩, hB⟩ hK
      have hcc := bc.cell
      have HF : Hid (((splV (wd : Int) M K Ws (hn : Int) Vs).filter fun z => decide (z < x)) = splV (wd : Int) M K Ws (hn : Int) Vs) := Lib.hid (filter_all hlt)
      have HB := Lib.hid hB
      clear hB bx bc hlt
      gi_wp2
      refine ⟨by simp, .inl ⟨_, _, rfl, run_takeDeferred hK, ?_⟩⟩
      exact ⟨_, results_tmp rfl _ _ _, by rw [HV.out, HF.out]; rfl, HB.out.trans (belowK_b (w := w) (Nat.le_refl _) W D _ _ (Nat.le_trans hB0.size hD) hK rfl rfl)⟩
    case stop =>
      rintro D cc pre W hD hpre ⟨⟨rfl, pre', y, rfl, hlt, hyx, bc⟩, hB⟩ hK
      have hcc := bc.cell
      have HF := Lib.hid (filter_cut hs hpre hlt hyx)
      have HB := Lib.hid hB
      clear hB bc hlt
      gi_wp2
      refine ⟨by simp, .inl ⟨_, _, rfl, run_takeDeferred hK, ?_⟩⟩
      exact ⟨_, results_tmp rfl _ _ _, by rw [HV.out, HF.out]; rfl, HB.out.trans (belowK_b (w := w) (Nat.le_refl _) W D _ _ (Nat.le_trans hB0.size hD) hK rfl rfl)⟩

end Go.Proofs.YtlbnngolcoefdaaDoor
