/- The program's isSorted over the numbers of a list. -/
import Derived.RangeFuncNested
import Derived.RangeFuncBound
import Derived.RangeFuncCalls
import Derived.RangeFuncLeaves
import Derived.RangeFuncBox
import Derived.Shelf.Abstract
import Derived.Shelf.RegionOpen
import Derived.WalkKit
import Derived.OwnWalkIn
import Derived.TacticsInMore
import Derived.LoopNIn
import Derived.LoopIn
import Derived.Test.YtlbnngolcoefdaaDoorMem3
import Derived.Test.YtlbnngolcoefdaaDoorSelMath2
import Derived.Test.YtlbnngolcoefdaaDoorProg
namespace Go.Proofs.YtlbnngolcoefdaaDoor
open Go.RowKit Go.Shelf
set_option maxRecDepth 100000
attribute [local go_sem] Oper.semAt_some

set_option maxHeartbeats 400000 in
theorem values_any (A : Option Addr) (n c : Nat) (w : World) :
    Calls Tryd.prog 56 #[.slice A n c] w fun e w' => e = .returned (.func (.func 92) #[] #[.pointer (some ⟨w.heap.size, 0, none⟩)]) ∧ w.alloc (.cells #[.slice A n c] 24) = w' := by
  go_enter Tryd.func56, Tryd.ntmps56
  go_wp2
  go_ret
  exact ⟨rfl, rfl⟩

set_option maxHeartbeats 2000000 in
theorem values1_in (F : Fence) (n : Nat) (h7 : F.fn 92) (hro : F.round = none) (hn : 1 ≤ n) (l Bs n₀ len cap : Nat) (A : Option Addr) (B : List Int) (hlen : len = B.length) (hreach : len ≤ 17592186044416) (J Jx : List Int → World → Prop)
    (hY : ∀ pre x W, J pre W → pre.length < len → YieldAt F (n - 1) Tryd.prog l #[.int .i64 x] W fun e W' =>
      (e = .returned (.bool true) ∧ J (pre ++ [x]) W' ∧ Below n₀ W W') ∨ (e = .returned (.bool false) ∧ Jx (pre ++ [x]) W'))
    (W : World) (hBs : W.cell? ⟨Bs, 0, none⟩ = some (.slice A len cap)) (hc : ∀ (j : Nat) (x : Int), B[j]? = some x → ∃ b o, A = some ⟨b, o, none⟩ ∧ b < n₀ ∧ W.cell? ⟨b, o + j, none⟩ = some (I x)) (h0 : J [] W) :
    CallsIn F n Tryd.prog 92 #[.func (.yield l) #[] #[], .pointer (some ⟨Bs, 0, none⟩)] W fun e W' => (∃ v, e = .returned v) ∧
      ((∃ ys, ys = B ∧ J ys W') ∨ (∃ pre, pre <+: B ∧ Jx pre W')) := by
  refine callsIn_of_wp Tryd.func92 rfl h7 ?_ hro
  simp only [Tryd.ntmps92, List.size_toArray, List.length_cons, List.length_nil, Nat.reduceAdd, Nat.reduceSub, Array.replicate_succ, Array.replicate_zero, List.push_toArray, List.append_toArray, List.nil_append, List.cons_append]
  gi_wp2
  gi_loopw [7] (fun i wr => ∃ k : Nat, k ≤ len ∧ i = .int .i64 k ∧ J (B.take k) wr ∧ Below n₀ W wr)
    (fun i _ => len - (intOf i).toNat)
  case atStart => exact ⟨0, Nat.zero_le _, rfl, h0, Below.refl _ _⟩
  case round =>
    obtain ⟨k, hk, rfl, hJs, hnx⟩ := hrel
    by_cases hlt : k < len
    · obtain ⟨x, hx⟩ : ∃ x, B[k]? = some x := ⟨_, List.getElem?_eq_getElem (by omega)⟩
      obtain ⟨b, o, hA, hb, hcell⟩ := hc k x hx
      subst hA
      have hcx : wr.cell? ⟨b, o + k, none⟩ = some (.int .i64 x) := (hnx.cell (p := ⟨b, o + k, none⟩) hb).trans hcell
      obtain ⟨fn, tmps, assign, body, hy, hR⟩ := hY _ x wr hJs (by rw [List.length_take]; omega)
      have htk : B.take (k + 1) = B.take k ++ [x] := by rw [List.take_add_one, hx, Option.toList_some]
      clear hcell
      gi_wp2
      refine hR.mono ?_
      rintro e W3 (⟨rfl, hJ3, hk3⟩ | ⟨rfl, hJx3⟩)
      · gi_wp2
        go_roundw
        case rel => exact ⟨k + 1, by omega, by simp, by rw [htk]; exact hJ3, hnx.trans hk3⟩
        case measure => simp [intOf]; omega
      · gi_wp2
        refine bodyPost_ret (results_none rfl _ _ _) rfl ?_
        exact ⟨⟨_, rfl⟩, .inr ⟨_, ⟨_, by rw [← htk]; exact List.take_append_drop (k + 1) B⟩, hJx3⟩⟩
    · obtain rfl : k = len := by omega
      gi_wp2
      go_end0
      exact ⟨⟨_, rfl⟩, .inl ⟨_, by rw [hlen]; exact List.take_length, hJs⟩⟩

theorem values_stops (F : Fence) (n : Nat) (h7 : F.fn 92) (hro : F.round = none) (hn : 1 ≤ n) (Bs n₀ cap : Nat) (A : Option Addr) (B : List Int) (hreach : B.length ≤ 17592186044416) (w : World) (hBs : Bs < w.heap.size) (hn₀ : n₀ ≤ w.heap.size)
    (hc : w.cell? ⟨Bs, 0, none⟩ = some (.slice A B.length cap)) (hI : ∀ (j : Nat) (x : Int), B[j]? = some x → ∃ b o, A = some ⟨b, o, none⟩ ∧ b < n₀ ∧ w.cell? ⟨b, o + j, none⟩ = some (I x)) :
    SeqStopsK F n Tryd.prog 92 #[.pointer (some ⟨Bs, 0, none⟩)] (fun x : Int => #[Value.int .i64 x]) (Below n₀) (fun ys => ys = B) (fun pre => pre <+: B) B.length w := fun l J Jx W hW _ _ hY h0 =>
  values1_in F n h7 hro hn l Bs n₀ B.length cap A B rfl hreach J Jx hY W ((hW.cell (p := ⟨Bs, 0, none⟩) hBs).trans hc)
    (fun j x hx => by
      obtain ⟨b, o, h1, h2, h3⟩ := hI j x hx
      exact ⟨b, o, h1, h2, (hW.cell (p := ⟨b, o + j, none⟩) (Nat.lt_of_lt_of_le h2 hn₀)).trans h3⟩) h0

/-- What isSorted holds while it ranges: its three variables. -/
def SortI (w : World) (u : Int) (pre : List Int) (W : World) : Prop :=
  (srt u 0 pre = true ∧ W.cell? ⟨w.heap.size, 0, none⟩ = some (.int .i64 u) ∧ (W.cell? ⟨w.heap.size + 1, 0, none⟩ = some (.bool false) ∧ W.frozen? ⟨w.heap.size + 1, 0, none⟩ = false) ∧ (W.cell? ⟨w.heap.size + 2, 0, none⟩ = some (.int .i64 (pre.getLastD 0)) ∧ W.frozen? ⟨w.heap.size + 2, 0, none⟩ = false)) ∧ Below w.heap.size w W
def SortX (w : World) (u : Int) (c : Code) (pre : List Int) (W : World) : Prop :=
  (c = .ret ∧ srt u 0 pre = false ∧ W.cell? ⟨w.heap.size + 1, 0, none⟩ = some (.bool false)) ∧ Below w.heap.size w W

set_option maxHeartbeats 2000000 in
theorem isSorted_in (F : Fence) (n : Nat) (h4 : F.fn 55) (hro : F.round = none) (hn : 3 ≤ n) (gf : Nat) (lb : Array Value) (hgf : F.fn gf) (eg : ∀ args w, (callFunc gf args).run Tryd.prog w = .ok (.enter gf args) w) (B : List Int) (u : Int) (n₀ : Nat) (w : World) (hn₀ : n₀ ≤ w.heap.size)
    (hseq : SeqStopsK F (n - 1) Tryd.prog gf lb (fun x : Int => #[Value.int .i64 x]) (Below n₀) (fun ys => ys = B) (fun pre => pre <+: B) B.length w) :
    CallsIn F n Tryd.prog 55 #[.func (.func gf) #[] lb, .int .i64 u] w fun e W' => e = .returned (.bool (srt u 0 B)) ∧ Below w.heap.size w W' := by
  have h1 : 1 ≤ n := by omega
  refine callsIn_of_wp_marks Tryd.func55 rfl h4 ?_ hro
  simp only [Tryd.ntmps55, List.size_toArray, List.length_cons, List.length_nil, Nat.reduceAdd, Nat.reduceSub, Array.replicate_succ, Array.replicate_zero, List.push_toArray, List.append_toArray, List.nil_append, List.cons_append]
  gi_wp2
  have bU := Boxed.new w 3 (.int .i64 u)
  have bR := Boxed.new (w.alloc (.cells #[.int .i64 u] 3)) 4 (.bool false)
  have bL := Boxed.new ((w.alloc (.cells #[.int .i64 u] 3)).alloc (.cells #[.bool false] 4)) 3 (.int .i64 0)
  simp only [World.size_alloc] at bR bL
  have hB0 : Below w.heap.size w (((w.alloc (.cells #[.int .i64 u] 3)).alloc (.cells #[.bool false] 4)).alloc (.cells #[.int .i64 0] 3)) := (((Below.refl _ w).alloc (Nat.le_refl _) _).alloc (by simp) _).alloc (by simp; omega) _
  refine wpIn_rangeFunc_ownG hro h1 (gf := gf) (lb := lb) rfl hgf eg hseq belowK_t (belowK_b (by simp; omega)) hB0 (fun _ => rfl)
    (SortI w u) (SortX w u)
    (OwnFrom.and (Own.from (fun s A B row hs hg hr => ⟨hs.1, cell_kept hs.2.1 hg hr, ⟨cell_kept hs.2.2.1.1 hg hr, (frozen_kept hs.2.2.1.1 hg hr).trans hs.2.2.1.2⟩, ⟨cell_kept hs.2.2.2.1 hg hr, (frozen_kept hs.2.2.2.1 hg hr).trans hs.2.2.2.2⟩⟩) _) (ownFrom_below (Nat.le_refl _) (by simp; omega)))
    (fun c => OwnFrom.and (Own.from (fun s A B row hs hg hr => ⟨hs.1, hs.2.1, cell_kept hs.2.2 hg hr⟩) _) (ownFrom_below (Nat.le_refl _) (by simp; omega)))
    ⟨⟨rfl, ((bU.alloc _).alloc _).cell, ⟨(bR.alloc _).cell, (bR.alloc _).frozen⟩, ⟨bL.cell, bL.frozen⟩⟩, hB0⟩
    (fun x => { tmps := #[.func (.func gf) #[] lb, .int .i64 u, undef, .pointer (some ⟨w.heap.size, 0, none⟩), .pointer (some ⟨w.heap.size + 1, 0, none⟩), .pointer (some ⟨w.heap.size + 2, 0, none⟩), .int .i64 x, .func (.func gf) #[] lb, .int .i64 x, undef, undef, undef, undef, undef, undef, undef, undef, undef], defers := [] }) ?assign ?body ?done ?stop
  case assign =>
    intro l x W K hK
    gi_wp2
    exact hK
  case body =>
    rintro l pre x W ⟨⟨hs, hcu, ⟨hcr, hfr⟩, ⟨hcl, hfl⟩⟩, hB⟩ _
    have hsn := srt_snoc u pre x 0
    rw [hs, Bool.true_and] at hsn
    have hla : (pre ++ [x]).getLastD 0 = x := by simp [List.getLastD_eq_getLast?]
    generalize pre.getLastD 0 = la at *
    have HS := Lib.hid hsn
    have HLA := Lib.hid hla
    have HB := Lib.hid hB
    clear hsn hla hs hB
    by_cases c1 : x < la
    · have t1 : decide (x < la) = true := decide_eq_true c1
      gi_wp2
      exact ⟨(KeepsOthers.setCell _ _ _).from _, ⟨rfl, HS.out.trans (decide_eq_false (by omega)), World.cell?_setCell_same' _ _ _ (by rw [hcr]; rfl)⟩, HB.out.setCell (p := ⟨w.heap.size + 1, 0, none⟩) (Nat.le_succ _) _⟩
    · have t1 : decide (x < la) = false := decide_eq_false c1
      by_cases c2 : u ≤ x
      · have t2 : decide (u ≤ x) = true := decide_eq_true c2
        gi_wp2
        exact ⟨(KeepsOthers.setCell _ _ _).from _, ⟨rfl, HS.out.trans (decide_eq_false (by omega)), World.cell?_setCell_same' _ _ _ (by rw [hcr]; rfl)⟩, HB.out.setCell (p := ⟨w.heap.size + 1, 0, none⟩) (Nat.le_succ _) _⟩
      · have t2 : decide (u ≤ x) = false := decide_eq_false c2
        gi_wp2
        have ko : ∀ b o : Nat, b ≠ w.heap.size + 2 → (W.setCell ⟨w.heap.size + 2, 0, none⟩ (.int .i64 x)).cell? ⟨b, o, none⟩ = W.cell? ⟨b, o, none⟩ := fun b o hb => World.cell?_of_block (a := ⟨b, o, none⟩) (Below.heap_setCell W ⟨w.heap.size + 2, 0, none⟩ _ b hb)
        refine ⟨(KeepsOthers.setCell _ _ _).from _, (Below.refl n₀ W).setCell (p := ⟨w.heap.size + 2, 0, none⟩) (Nat.le_trans hn₀ (Nat.le_add_right _ 2)) _, ⟨⟨HS.out.trans (decide_eq_true (by omega)), (ko _ 0 (by omega)).trans hcu, ⟨(ko _ 0 (by omega)).trans hcr, by rw [World.frozen?_setCell]; exact hfr⟩, ⟨?_, by rw [World.frozen?_setCell]; exact hfl⟩⟩, HB.out.setCell (p := ⟨w.heap.size + 2, 0, none⟩) (Nat.le_add_right _ 2) _⟩⟩
        rw [HLA.out]
        exact World.cell?_setCell_same' _ _ _ (by rw [hcl]; rfl)
  case done =>
    rintro D ys W hD rfl ⟨⟨hs, hcu, ⟨hcr, hfr⟩, _⟩, hB⟩ hK
    have HB := Lib.hid hB
    clear hB
    gi_wp2
    have hK' := (KeepsOthers.setCell W ⟨w.heap.size + 1, 0, none⟩ (.bool true)).same D _ hK rfl
    refine ⟨by simp, .inl ⟨_, _, rfl, run_takeDeferred hK', ?_⟩⟩
    have hc5 := cell_kept (World.cell?_setCell_same' W ⟨w.heap.size + 1, 0, none⟩ (.bool true) (by rw [hcr]; rfl)) (grownBy_putObj' _ D (.deferred none)) (fun r e => by cases e; exact ⟨_, hK', rfl⟩)
    refine ⟨.bool true, ?_, by rw [hs], (HB.out.setCell (p := ⟨w.heap.size + 1, 0, none⟩) (Nat.le_succ _) _).trans (belowK_b (w := w) (Nat.le_refl _) _ D _ _ (by simp at hD; omega) hK' rfl rfl)⟩
    simp [results, Tryd.f55, go_sem, hc5]
  case stop =>
    rintro D c pre W hD hpre ⟨⟨rfl, hs, hcr⟩, hB⟩ hK
    have HB := Lib.hid hB
    have HS : Hid (srt u 0 B = false) := Lib.hid (by
      cases h : srt u 0 B
      · rfl
      · rw [srt_before hpre h] at hs
        cases hs)
    clear hB hs
    gi_wp2
    refine ⟨by simp, .inl ⟨_, _, rfl, run_takeDeferred hK, ?_⟩⟩
    have hc5 := cell_kept hcr (grownBy_putObj' _ D (.deferred none)) (fun r e => by cases e; exact ⟨_, hK, rfl⟩)
    refine ⟨.bool false, ?_, by rw [HS.out], HB.out.trans (belowK_b (w := w) (Nat.le_refl _) W D _ _ (by simp at hD; omega) hK rfl rfl)⟩
    simp [results, Tryd.f55, go_sem, hc5]

theorem isSorted_list (A : Option Addr) (c : Nat) (B : List Int) (u : Int) (w : World) (hB : Lies w I A B) (hl : B.length ≤ 17592186044416) (Bs : Nat) (hs : Bs < w.heap.size) (hc : w.cell? ⟨Bs, 0, none⟩ = some (.slice A B.length c)) :
    Calls Tryd.prog 55 #[.func (.func 92) #[] #[.pointer (some ⟨Bs, 0, none⟩)], .int .i64 u] w fun e W' => e = .returned (.bool (srt u 0 B)) ∧ Below w.heap.size w W' :=
  callsIn_wide.1 (isSorted_in Fence.wide 3 trivial rfl (Nat.le_refl _) _ _ trivial (enters_of Tryd.func92 (by kernel_rfl) rfl) B u w.heap.size w (Nat.le_refl _)
    (values_stops Fence.wide 2 trivial rfl (by omega) Bs w.heap.size c A B hl w hs (Nat.le_refl _) hc hB))

end Go.Proofs.YtlbnngolcoefdaaDoor
