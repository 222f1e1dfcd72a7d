/- The draw of a list of frames (a weak contract). -/
import Derived.Test.YtlbnngolcoefdaaDoorDrawF
import Derived.Test.YtlbnngolcoefdaaDoorFrs9
import Derived.Test.YtlbnngolcoefdaaDoorFrsRd1
namespace Go.Proofs.YtlbnngolcoefdaaDoor
open Go.RowKit
set_option maxRecDepth 100000

/-- The frames' bytes are bytes. -/
def BysF (Q : List FrV) : Prop := ∃ V : List (Int × List Nat), Q.map (fun q => (q.K, q.xs)) = V.map (fun v => (v.1, v.2.map B8)) ∧ ∀ v ∈ V, v.2.length ≤ 8001 ∧ ∀ x ∈ v.2, x < 2 ^ 8
theorem BysF.add {Q : List FrV} (h : BysF Q) {K : Int} {A : Option Addr} {c : Nat} {L : List Nat} (hl : L.length ≤ 8001) (hb : ∀ x ∈ L, x < 2 ^ 8) : BysF (Q ++ [⟨K, A, c, L.map B8⟩]) := by
  obtain ⟨V, h1, h2⟩ := h
  refine ⟨V ++ [(K, L)], by rw [List.map_append, List.map_append, h1]; rfl, fun v hv => ?_⟩
  rcases List.mem_append.1 hv with hv | hv
  · exact h2 v hv
  · obtain rfl : v = (K, L) := by simpa using hv
    exact ⟨hl, hb⟩
theorem FrsL.mono {w : World} {lo lo' : Nat} {v : Value} {Q : List FrV} (h : FrsL w lo v Q) (hl : lo' ≤ lo) : FrsL w lo' v Q := ⟨own_mono h.row hl, fun j p hp => own_mono (h.own j p hp) hl, h.apart⟩
theorem FrsL.past {w w' : World} {lo g : Nat} {v : Value} {Q : List FrV} (h : FrsL w lo v Q) (hg : w.grownBy w' (some g)) (hgl : g < lo) : FrsL w' lo v Q :=
  h.turn fun k h1 h2 => hg.block k h2 fun e => by have := Option.some.inj e; omega

set_option maxHeartbeats 1600000 in
theorem drawFramesOf_any (A : Option Addr) (c : Nat) (D : List Nat) (w : World) (hD : Lies w B8 A D) (hw : ∀ x ∈ D, x < 2 ^ 8) (hl : D.length ≤ 1048576) :
    Calls Tryd.prog 20 #[.slice A D.length c] w fun e w' => ∃ (v : Value) (Q : List FrV), e = .returned v ∧ FrsL w' w.heap.size v Q ∧ Q.length ≤ 5 ∧ BysF Q ∧ Below w.heap.size w w' := by
  obtain ⟨i0, hi, hzz⟩ := Option.map_eq_some_iff.1 Tryd.infoFrame2
  simp only [Prod.mk.injEq] at hzz
  obtain ⟨hz0, hz1, hz2⟩ := hzz
  have HD := Lib.hid hD
  have HW := Lib.hid hw
  clear hD hw
  go_enter Tryd.func20, Tryd.ntmps20
  go_wp2_with fail
  refine (open_any A c D w HD.out HW.out hl).mono ?_
  rintro e w1 ⟨rfl, hc1, hb1⟩
  have hgl := hc1.lt
  have HD1 := Lib.hid hc1.lies
  have HB1 := Lib.hid hb1
  clear hb1
  generalize hg : w.heap.size = g at *
  go_wp2_with fail
  refine (pick_any g A c D 0 5 _ (cur_alloc hc1 _) (by omega) (by omega)).mono ?_
  rintro e w2 ⟨r, rfl, hr, _, hc2, hg2⟩
  have hr5 : (r : Int) < 5 := hr (by omega)
  have HL2 := Lib.hid (FrsL.past (lo := w1.heap.size) (Q := []) ⟨World.ownsRow_made w1 (e := 49) (size := 2) #[] 0 (Nat.le_refl _) (by unfold maxLen; omega) rfl, fun j p h => by simp at h, fun i j p q k _ h => by simp at h⟩ hg2 hgl)
  have HG2 := Lib.hid ((World.grownBy_alloc w1 (Obj.cells #[] 49) (some g)).trans hg2)
  have HC2 := Lib.hid hc2
  have HEnd : Hid (∀ W, w1.grownBy W (some g) → Below w.heap.size w W) := Lib.hid fun W h => by
    have h1 := HB1.out
    rw [← hg] at h1
    exact grown_below2 h1 h (by omega)
  clear hg2 hc2 hc1 hr
  go_wp2
  go_loopw [4, 5] (fun s j wr => ∃ (k : Nat) (Q : List FrV), k ≤ r ∧ j = .int .i64 k ∧ Hid (FrsL wr w1.heap.size s Q) ∧ Q.length + k ≤ 5 ∧ Hid (BysF Q) ∧ Hid (Cur wr g A c D (1 + 70 * (5 - k))) ∧ Hid (w1.grownBy wr (some g))) (fun _ j _ => (intOf j).toNat)
  case atStart => exact ⟨r, [], Nat.le_refl _, rfl, HL2, by simp; omega, Lib.hid ⟨[], rfl, fun v hv => by simp at hv⟩, Lib.hid (HC2.out.more (by omega)), HG2⟩
  case round =>
    obtain ⟨k, Q, hkr, rfl, HL, hQk, HBy, HC, HG⟩ := hrel
    obtain ⟨As, ds, rfl⟩ := HL.out.len
    rcases Nat.eq_zero_or_pos k with h0 | h0
    · subst h0
      go_wp2
      go_ret
      exact ⟨_, Q, rfl, HL.out.mono (by omega), by omega, HBy.out, HEnd.out _ HG.out⟩
    · obtain ⟨k, rfl⟩ : ∃ k', k = k' + 1 := ⟨k - 1, by omega⟩
      go_wp2_with fail
      refine (frameOf_any g A c D (1 + 70 * (5 - (k + 1))) wr HC.out (by omega)).mono ?_
      rintro e w3 ⟨K3, A3, c3, L3, rfl, ho3, hl3, hb3, hc3, hg3⟩
      have hwr := HG.out.size
      have HL3 := Lib.hid ((HL.out.past hg3 hgl).below ((Below.refl _ _).alloc (Nat.le_refl _) (Obj.cells #[.int .i64 K3, .slice A3 L3.length c3] 49)) (Nat.le_refl _))
      have HO3 : Hid ((w3.alloc (Obj.cells #[.int .i64 K3, .slice A3 L3.length c3] 49)).ownsRow wr.heap.size 5 1 (.slice A3 L3.length c3) L3.length (L3.map B8)) := Lib.hid (ho3.alloc _)
      have HNew : Hid (∀ (j : Nat) (p : FrV), Q[j]? = some p → ∀ k, p.body.ownBlock = some k → k < wr.heap.size) := Lib.hid fun j p hp k e => ((HL.out.own j p hp).lt k e).2
      have HB3 := Lib.hid hb3
      have HC3 := Lib.hid (cur_alloc hc3 (Obj.cells #[.int .i64 K3, .slice A3 L3.length c3] 49))
      have HG3 := Lib.hid ((HG.out.trans hg3).trans (World.grownBy_alloc w3 (Obj.cells #[.int .i64 K3, .slice A3 L3.length c3] 49) (some g)))
      have hs3 := hg3.size
      have HNw := Lib.hid (two_new w3 (.int .i64 K3) (.slice A3 L3.length c3))
      clear ho3 hb3 hc3 hg3 HL HC HG
      go_wp2_with (at_builtin; refine wpList_append_own _ rfl _ _ 41 rfl w1.heap.size 49 i0 (.agg #[.int .i64 0, .slice none 0 0]) 2 32 Tryd.underlying41 hi hz0 hz1 hz2 rfl (by decide) _ _ _ rfl HL3.out.row ⟨w3.heap.size, 0, none⟩ 1 1 [.int .i64 K3, .slice A3 L3.length c3] rfl rfl HNw.out (by intro u hu; simp at hu; rcases hu with rfl | rfl <;> rfl) (by unfold maxLen; omega) (by omega) HG3.out.size ?_)
      intro v' w4 hrow hg4 _
      have HL4 := Lib.hid (HL3.out.add (K := K3) (xs := L3.map B8) (by rw [List.length_map]; exact HO3.out) hwr HNew.out (by rw [List.length_map]; exact hrow) hg4)
      have hge : ∀ j, Value.ownBlock _ = some j → w1.heap.size ≤ j := fun j hj => (rowF_kind HL3.out.row hj).1
      have HC4 := Lib.hid (HC3.out.pastF HD1.out hgl hg4 hge)
      have HG4 := Lib.hid (grown_twoF HG3.out hg4 hge)
      have HBy4 := Lib.hid (HBy.out.add (K := K3) (A := A3) (c := c3) hl3 HB3.out)
      clear hrow hg4 hge HL3 HO3 HNew HNw HC3 HG3 HBy HB3
      go_wp2
      go_roundw
      case rel => exact ⟨k, _, by omega, by go_num, HL4, by rw [List.length_append]; simp; omega, HBy4, Lib.hid (HC4.out.more (by omega)), HG4⟩
      case measure => simp [intOf]

end Go.Proofs.YtlbnngolcoefdaaDoor
