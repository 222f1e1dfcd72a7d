/- The program's isSorted over the numbers of a list. -/
import Derived.RangeFuncNested
import Derived.RangeFuncBound
import Derived.RangeFuncCalls
import Derived.RangeFuncLeaves
import Derived.RangeFuncBox
import Derived.Shelf.Abstract
import Derived.Shelf.RegionOpen
import Derived.WalkKit
import Derived.OwnWalkIn
import Derived.TacticsInMore
import Derived.LoopNIn
import Derived.LoopIn
import Derived.Test.YtlbnngolcoefdaaMem3
import Derived.Test.YtlbnngolcoefdaaSelMath2
import Derived.Test.YtlbnngolcoefdaaProg
namespace Go.Proofs.Ytlbnngolcoefdaa
open Go.RowKit Go.Shelf
set_option maxRecDepth 100000
attribute [local go_sem] Oper.semAt_some

/-- What isSorted holds while it ranges: its three variables. -/
def SortI (w : World) (u : Int) (pre : List Int) (W : World) : Prop :=
  (srt u 0 pre = true ∧ W.cell? ⟨w.heap.size, 0, none⟩ = some (.int .i64 u) ∧ (W.cell? ⟨w.heap.size + 1, 0, none⟩ = some (.bool false) ∧ W.frozen? ⟨w.heap.size + 1, 0, none⟩ = false) ∧ (W.cell? ⟨w.heap.size + 2, 0, none⟩ = some (.int .i64 (pre.getLastD 0)) ∧ W.frozen? ⟨w.heap.size + 2, 0, none⟩ = false)) ∧ Below w.heap.size w W
def SortX (w : World) (u : Int) (c : Code) (pre : List Int) (W : World) : Prop :=
  (c = .ret ∧ srt u 0 pre = false ∧ W.cell? ⟨w.heap.size + 1, 0, none⟩ = some (.bool false)) ∧ Below w.heap.size w W

set_option maxHeartbeats 2000000 in
theorem isSorted_in (F : Fence) (n : Nat) (h4 : F.fn 71) (hro : F.round = none) (hn : 3 ≤ n) (gf : Nat) (lb : Array Value) (hgf : F.fn gf) (eg : ∀ args w, (callFunc gf args).run Try.prog w = .ok (.enter gf args) w) (B : List Int) (u : Int) (n₀ : Nat) (w : World) (hn₀ : n₀ ≤ w.heap.size)
    (hseq : SeqStopsK F (n - 1) Try.prog gf lb (fun x : Int => #[Value.int .i64 x]) (Below n₀) (fun ys => ys = B) (fun pre => pre <+: B) B.length w) :
    CallsIn F n Try.prog 71 #[.func (.func gf) #[] lb, .int .i64 u] w fun e W' => e = .returned (.bool (srt u 0 B)) ∧ Below w.heap.size w W' := by
  have h1 : 1 ≤ n := by omega
  refine callsIn_of_wp_marks Try.func71 rfl h4 ?_ hro
  simp only [Try.ntmps71, List.size_toArray, List.length_cons, List.length_nil, Nat.reduceAdd, Nat.reduceSub, Array.replicate_succ, Array.replicate_zero, List.push_toArray, List.append_toArray, List.nil_append, List.cons_append]
  gi_wp2
  have bU := Boxed.new w 3 (.int .i64 u)
  have bR := Boxed.new (w.alloc (.cells #[.int .i64 u] 3)) 4 (.bool false)
  have bL := Boxed.new ((w.alloc (.cells #[.int .i64 u] 3)).alloc (.cells #[.bool false] 4)) 3 (.int .i64 0)
  simp only [World.size_alloc] at bR bL
  have hB0 : Below w.heap.size w (((w.alloc (.cells #[.int .i64 u] 3)).alloc (.cells #[.bool false] 4)).alloc (.cells #[.int .i64 0] 3)) := (((Below.refl _ w).alloc (Nat.le_refl _) _).alloc (by simp) _).alloc (by simp; omega) _
  refine wpIn_rangeFunc_ownG hro h1 (gf := gf) (lb := lb) rfl hgf eg hseq belowK_t (belowK_b (by simp; omega)) hB0 (fun _ => rfl)
    (SortI w u) (SortX w u)
    (OwnFrom.and (Own.from (fun s A B row hs hg hr => ⟨hs.1, cell_kept hs.2.1 hg hr, ⟨cell_kept hs.2.2.1.1 hg hr, (frozen_kept hs.2.2.1.1 hg hr).trans hs.2.2.1.2⟩, ⟨cell_kept hs.2.2.2.1 hg hr, (frozen_kept hs.2.2.2.1 hg hr).trans hs.2.2.2.2⟩⟩) _) (ownFrom_below (Nat.le_refl _) (by simp; omega)))
    (fun c => OwnFrom.and (Own.from (fun s A B row hs hg hr => ⟨hs.1, hs.2.1, cell_kept hs.2.2 hg hr⟩) _) (ownFrom_below (Nat.le_refl _) (by simp; omega)))
    ⟨⟨rfl, ((bU.alloc _).alloc _).cell, ⟨(bR.alloc _).cell, (bR.alloc _).frozen⟩, ⟨bL.cell, bL.frozen⟩⟩, hB0⟩
    (fun x => { tmps := #[.func (.func gf) #[] lb, .int .i64 u, undef, .pointer (some ⟨w.heap.size, 0, none⟩), .pointer (some ⟨w.heap.size + 1, 0, none⟩), .pointer (some ⟨w.heap.size + 2, 0, none⟩), .int .i64 x, .func (.func gf) #[] lb, .int .i64 x, undef, undef, undef, undef, undef, undef, undef, undef, undef], defers := [] }) ?assign ?body ?done ?stop
  case assign =>
    intro l x W K hK
    gi_wp2
    exact hK
  case body =>
    rintro l pre x W ⟨⟨hs, hcu, ⟨hcr, hfr⟩, ⟨hcl, hfl⟩⟩, hB⟩ _
    have hsn := srt_snoc u pre x 0
    rw [hs, Bool.true_and] at hsn
    have hla : (pre ++ [x]).getLastD 0 = x := by simp [List.getLastD_eq_getLast?]
    generalize pre.getLastD 0 = la at *
    have HS := Lib.hid hsn
    have HLA := Lib.hid hla
    have HB := Lib.hid hB
    clear hsn hla hs hB
    by_cases c1 : x < la
    · have t1 : decide (x < la) = true := decide_eq_true c1
      gi_wp2
      exact ⟨(KeepsOthers.setCell _ _ _).from _, ⟨rfl, HS.out.trans (decide_eq_false (by omega)), World.cell?_setCell_same' _ _ _ (by rw [hcr]; rfl)⟩, HB.out.setCell (p := ⟨w.heap.size + 1, 0, none⟩) (Nat.le_succ _) _⟩
    · have t1 : decide (x < la) = false := decide_eq_false c1
      by_cases c2 : u ≤ x
      · have t2 : decide (u ≤ x) = true := decide_eq_true c2
        gi_wp2
        exact ⟨(KeepsOthers.setCell _ _ _).from _, ⟨rfl, HS.out.trans (decide_eq_false (by omega)), World.cell?_setCell_same' _ _ _ (by rw [hcr]; rfl)⟩, HB.out.setCell (p := ⟨w.heap.size + 1, 0, none⟩) (Nat.le_succ _) _⟩
      · have t2 : decide (u ≤ x) = false := decide_eq_false c2
        gi_wp2
        have ko : ∀ b o : Nat, b ≠ w.heap.size + 2 → (W.setCell ⟨w.heap.size + 2, 0, none⟩ (.int .i64 x)).cell? ⟨b, o, none⟩ = W.cell? ⟨b, o, none⟩ := fun b o hb => World.cell?_of_block (a := ⟨b, o, none⟩) (Below.heap_setCell W ⟨w.heap.size + 2, 0, none⟩ _ b hb)
        refine ⟨(KeepsOthers.setCell _ _ _).from _, (Below.refl n₀ W).setCell (p := ⟨w.heap.size + 2, 0, none⟩) (Nat.le_trans hn₀ (Nat.le_add_right _ 2)) _, ⟨⟨HS.out.trans (decide_eq_true (by omega)), (ko _ 0 (by omega)).trans hcu, ⟨(ko _ 0 (by omega)).trans hcr, by rw [World.frozen?_setCell]; exact hfr⟩, ⟨?_, by rw [World.frozen?_setCell]; exact hfl⟩⟩, HB.out.setCell (p := ⟨w.heap.size + 2, 0, none⟩) (Nat.le_add_right _ 2) _⟩⟩
        rw [HLA.out]
        exact World.cell?_setCell_same' _ _ _ (by rw [hcl]; rfl)
  case done =>
    rintro D ys W hD rfl ⟨⟨hs, hcu, ⟨hcr, hfr⟩, _⟩, hB⟩ hK
    have HB := Lib.hid hB
    clear hB
    gi_wp2
    have hK' := (KeepsOthers.setCell W ⟨w.heap.size + 1, 0, none⟩ (.bool true)).same D _ hK rfl
    refine ⟨by simp, .inl ⟨_, _, rfl, run_takeDeferred hK', ?_⟩⟩
    have hc5 := cell_kept (World.cell?_setCell_same' W ⟨w.heap.size + 1, 0, none⟩ (.bool true) (by rw [hcr]; rfl)) (grownBy_putObj' _ D (.deferred none)) (fun r e => by cases e; exact ⟨_, hK', rfl⟩)
    refine ⟨.bool true, ?_, by rw [hs], (HB.out.setCell (p := ⟨w.heap.size + 1, 0, none⟩) (Nat.le_succ _) _).trans (belowK_b (w := w) (Nat.le_refl _) _ D _ _ (by simp at hD; omega) hK' rfl rfl)⟩
    simp [results, Try.f71, go_sem, hc5]
  case stop =>
    rintro D c pre W hD hpre ⟨⟨rfl, hs, hcr⟩, hB⟩ hK
    have HB := Lib.hid hB
    have HS : Hid (srt u 0 B = false) := Lib.hid (by
      cases h : srt u 0 B
      · rfl
      · rw [srt_before hpre h] at hs
        cases hs)
    clear hB hs
    gi_wp2
    refine ⟨by simp, .inl ⟨_, _, rfl, run_takeDeferred hK, ?_⟩⟩
    have hc5 := cell_kept hcr (grownBy_putObj' _ D (.deferred none)) (fun r e => by cases e; exact ⟨_, hK, rfl⟩)
    refine ⟨.bool false, ?_, by rw [HS.out], HB.out.trans (belowK_b (w := w) (Nat.le_refl _) W D _ _ (by simp at hD; omega) hK rfl rfl)⟩
    simp [results, Try.f71, go_sem, hc5]

end Go.Proofs.Ytlbnngolcoefdaa
