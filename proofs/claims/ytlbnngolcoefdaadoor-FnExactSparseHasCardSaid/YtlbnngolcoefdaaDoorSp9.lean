/- The program's isSorted, over whatever iterator; SparseRank's and Collect's loops come after it. -/
import Derived.Test.YtlbnngolcoefdaaDoorSp8
namespace Go.Proofs.YtlbnngolcoefdaaDoor
open Go.RowKit Go.Shelf
set_option maxRecDepth 100000
attribute [local go_sem] Oper.semAt_some

theorem kp_set {n₀ g : Nat} {W : World} {t : TypeId} {v0 : Value} (h : Boxed W g t v0) (h1 : t ≠ 29) (h2 : t ≠ 115) (h3 : t ≠ 33) (hn : n₀ ≤ g) (v : Value) : KpB n₀ W (W.setCell ⟨g, 0, none⟩ v) :=
  ⟨(Below.refl n₀ W).setCell (p := ⟨g, 0, none⟩) hn v, fun k cs t' f hk ht => Below.heap_setCell W ⟨g, 0, none⟩ v k fun e => by
    have e' : k = g := e
    subst e'
    rw [show W.heap[k]? = _ from h] at hk
    cases hk
    rcases ht with rfl | rfl | rfl
    · exact h1 rfl
    · exact h2 rfl
    · exact h3 rfl⟩

/-- What isSorted holds while it ranges: its three variables. -/
def SortJ (w : World) (u : Int) (pre : List Int) (W : World) : Prop :=
  (srt u 0 pre = true ∧ Boxed W w.heap.size 3 (.int .i64 u) ∧ Boxed W (w.heap.size + 1) 4 (.bool false) ∧ Boxed W (w.heap.size + 2) 3 (.int .i64 (pre.getLastD 0))) ∧ Below w.heap.size w W
def SortY (w : World) (u : Int) (c : Code) (pre : List Int) (W : World) : Prop :=
  (c = .ret ∧ srt u 0 pre = false ∧ Boxed W (w.heap.size + 1) 4 (.bool false)) ∧ Below w.heap.size w W

theorem own_boxed {β : Type} {B g : Nat} {t : TypeId} {v : Value} {s : β} {A A' : World} {row : Option Nat} (hs : Boxed A g t v) (hg : A.grownBy A' row) (hr : ∀ r, row = some r → B ≤ r ∧ ∃ o : Obj, A.heap[r]? = some o ∧ o.isCells = false) : Boxed A' g t v :=
  hs.kept hg fun e => by
    obtain ⟨_, o, ho, hc⟩ := hr g e.symm
    rw [show A.heap[g]? = _ from hs] at ho
    cases ho
    cases hc

set_option maxHeartbeats 2000000 in
theorem isSortedO (gf : Nat) (lb : Array Value) (eg : ∀ args w, (callFunc gf args).run Tryd.prog w = .ok (.enter gf args) w) (B : List Int) (u : Int) (n₀ N : Nat) (w : World) (hn₀ : n₀ ≤ w.heap.size)
    (hseq : SeqO Tryd.prog gf lb (fun x : Int => #[Value.int .i64 x]) (KpB n₀) (fun ys => ys = B) (fun pre => pre <+: B) N w) :
    Calls Tryd.prog 55 #[.func (.func gf) #[] lb, .int .i64 u] w fun e W' => e = .returned (.bool (srt u 0 B)) ∧ Below w.heap.size w W' := by
  refine (callsIn_wide (n := 0)).1 ?_
  refine callsIn_of_wp_marks Tryd.func55 rfl trivial ?_ rfl
  simp only [Tryd.ntmps55, List.size_toArray, List.length_cons, List.length_nil, Nat.reduceAdd, Nat.reduceSub, Array.replicate_succ, Array.replicate_zero, List.push_toArray, List.append_toArray, List.nil_append, List.cons_append]
  gi_wp2
  have bU := Boxed.new w 3 (.int .i64 u)
  have bR := Boxed.new (w.alloc (.cells #[.int .i64 u] 3)) 4 (.bool false)
  have bL := Boxed.new ((w.alloc (.cells #[.int .i64 u] 3)).alloc (.cells #[.bool false] 4)) 3 (.int .i64 0)
  simp only [World.size_alloc] at bR bL
  have hB0 : Below w.heap.size w (((w.alloc (.cells #[.int .i64 u] 3)).alloc (.cells #[.bool false] 4)).alloc (.cells #[.int .i64 0] 3)) := (((Below.refl _ w).alloc (Nat.le_refl _) _).alloc (by simp) _).alloc (by simp; omega) _
  refine wpIn_range_O (n := 0) (gf := gf) (lb := lb) rfl eg hseq kp_t (kp_b (by simp; omega)) hB0 (fun _ => rfl)
    (SortJ w u) (SortY w u)
    (OwnFrom.and (fun s A B row hs hg hr => ⟨hs.1, own_boxed (s := s) hs.2.1 hg hr, own_boxed (s := s) hs.2.2.1 hg hr, own_boxed (s := s) hs.2.2.2 hg hr⟩) (ownFrom_below (Nat.le_refl _) (by simp; omega)))
    (fun c => OwnFrom.and (fun s A B row hs hg hr => ⟨hs.1, hs.2.1, own_boxed (s := s) hs.2.2 hg hr⟩) (ownFrom_below (Nat.le_refl _) (by simp; omega)))
    ⟨⟨rfl, (bU.alloc _).alloc _, bR.alloc _, bL⟩, hB0⟩
    (fun x => { tmps := #[.func (.func gf) #[] lb, .int .i64 u, undef, .pointer (some ⟨w.heap.size, 0, none⟩), .pointer (some ⟨w.heap.size + 1, 0, none⟩), .pointer (some ⟨w.heap.size + 2, 0, none⟩), .int .i64 x, .func (.func gf) #[] lb, .int .i64 x, undef, undef, undef, undef, undef, undef, undef, undef, undef], defers := [] }) ?assign ?body ?done ?stop
  case assign =>
    intro l x W K hK
    gi_wp2
    exact hK
  case body =>
    rintro l pre x W ⟨⟨hs, bu, br, bl⟩, hB⟩ _
    have hsn := srt_snoc u pre x 0
    rw [hs, Bool.true_and] at hsn
    have hla : (pre ++ [x]).getLastD 0 = x := by simp [List.getLastD_eq_getLast?]
    generalize pre.getLastD 0 = la at *
    have HS := Lib.hid hsn
    have HLA := Lib.hid hla
    have HB := Lib.hid hB
    have hcu := bu.cell
    have hcr := br.cell
    have hfr := br.frozen
    have hcl := bl.cell
    have hfl := bl.frozen
    have BU := Lib.hid bu
    have BR := Lib.hid br
    have BL := Lib.hid bl
    clear hsn hla hs hB bu br bl
    by_cases c1 : x < la
    · have t1 : decide (x < la) = true := decide_eq_true c1
      gi_wp2
      exact ⟨(KeepsOthers.setCell _ _ _).from _, ⟨rfl, HS.out.trans (decide_eq_false (by omega)), BR.out.set _⟩, HB.out.setCell (p := ⟨w.heap.size + 1, 0, none⟩) (Nat.le_succ _) _⟩
    · have t1 : decide (x < la) = false := decide_eq_false c1
      by_cases c2 : u ≤ x
      · have t2 : decide (u ≤ x) = true := decide_eq_true c2
        gi_wp2
        exact ⟨(KeepsOthers.setCell _ _ _).from _, ⟨rfl, HS.out.trans (decide_eq_false (by omega)), BR.out.set _⟩, HB.out.setCell (p := ⟨w.heap.size + 1, 0, none⟩) (Nat.le_succ _) _⟩
      · have t2 : decide (u ≤ x) = false := decide_eq_false c2
        gi_wp2
        refine ⟨(KeepsOthers.setCell _ _ _).from _, kp_set BL.out (by decide) (by decide) (by decide) (Nat.le_trans hn₀ (Nat.le_add_right _ 2)) _, ⟨HS.out.trans (decide_eq_true (by omega)), BU.out.other (by omega) _, BR.out.other (by omega) _, ?_⟩, HB.out.setCell (p := ⟨w.heap.size + 2, 0, none⟩) (Nat.le_add_right _ 2) _⟩
        rw [HLA.out]
        exact BL.out.set _
  case done =>
    rintro D ys W hD rfl ⟨⟨hs, _, br, _⟩, hB⟩ hK
    have hcr := br.cell
    have hfr := br.frozen
    clear br
    have HB := Lib.hid hB
    clear hB
    gi_wp2
    have hK' := (KeepsOthers.setCell W ⟨w.heap.size + 1, 0, none⟩ (.bool true)).same D _ hK rfl
    refine ⟨by simp, .inl ⟨_, _, rfl, run_takeDeferred hK', ?_⟩⟩
    have hc5 := cell_kept (World.cell?_setCell_same' W ⟨w.heap.size + 1, 0, none⟩ (.bool true) (by rw [hcr]; rfl)) (grownBy_putObj' _ D (.deferred none)) (fun r e => by cases e; exact ⟨_, hK', rfl⟩)
    refine ⟨.bool true, ?_, by rw [hs], (HB.out.setCell (p := ⟨w.heap.size + 1, 0, none⟩) (Nat.le_succ _) _).trans (belowK_b (w := w) (Nat.le_refl _) _ D _ _ (by simp at hD; omega) hK' rfl rfl)⟩
    simp [results, Tryd.f55, go_sem, hc5]
  case stop =>
    rintro D c pre W hD hpre ⟨⟨rfl, hs, br⟩, hB⟩ hK
    have hcr := br.cell
    clear br
    have HB := Lib.hid hB
    have HS : Hid (srt u 0 B = false) := Lib.hid (by
      cases h : srt u 0 B
      · rfl
      · rw [srt_before hpre h] at hs
        cases hs)
    clear hB hs
    gi_wp2
    refine ⟨by simp, .inl ⟨_, _, rfl, run_takeDeferred hK, ?_⟩⟩
    have hc5 := cell_kept hcr (grownBy_putObj' _ D (.deferred none)) (fun r e => by cases e; exact ⟨_, hK, rfl⟩)
    refine ⟨.bool false, ?_, by rw [HS.out], HB.out.trans (belowK_b (w := w) (Nat.le_refl _) W D _ _ (by simp at hD; omega) hK rfl rfl)⟩
    simp [results, Tryd.f55, go_sem, hc5]

end Go.Proofs.YtlbnngolcoefdaaDoor
