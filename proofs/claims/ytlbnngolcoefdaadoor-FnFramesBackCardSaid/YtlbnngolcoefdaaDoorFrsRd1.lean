/- FramesRead, the program's and the specification's. -/
import Derived.Test.YtlbnngolcoefdaaDoorFrsRdM
import Derived.Test.YtlbnngolcoefdaaDoorFrs8
import Derived.Test.YtlbnngolcoefdaaDoorFrRd7
namespace Go.Proofs.YtlbnngolcoefdaaDoor
open Go.RowKit
set_option maxRecDepth 100000

/-- What FramesRead returns. -/
def RdsRes (D : List Nat) (w : World) (e : Ending) (w' : World) : Prop :=
  ∃ v Q, e = .returned (.tuple #[v, .int .i64 (frsN D)]) ∧ FrsL w' w.heap.size v Q ∧ Q.map (fun q => (q.K, q.xs)) = (frsV D).map (fun v => (v.1, v.2.map B8)) ∧ totV Q ≤ 8000 ∧ Below w.heap.size w w'
theorem rds_done {D : List Nat} {w w' : World} {V : List (Nat × List Nat)} {a f : Nat} {v : Value} {Q : List FrV} (hD : D.length ≤ 8000) (h : FrInv D V a f) (hp : frP (D.drop a) = none) (hL : FrsL w' w.heap.size v Q) (hm : Q.map (fun q => (q.K, q.xs)) = V.map (fun p => ((p.1 : Int), p.2.map B8))) (ht : totV Q ≤ a) (hb : Below w.heap.size w w') :
    RdsRes D w (.returned (.tuple #[v, .int .i64 (a : Int)])) w' := by
  have e := h.done hp
  refine ⟨v, Q, ?_, hL, ?_, Nat.le_trans ht (Nat.le_trans h.tot hD), hb⟩
  · unfold frsN
    rw [if_pos hD, e]
  · unfold frsV
    rw [if_pos hD, e, hm, List.map_map]
    rfl
theorem rds_long {D : List Nat} {w : World} (hD : ¬ D.length ≤ 8000) : RdsRes D w (.returned (.tuple #[.slice none 0 0, .int .i64 (-1)])) w := by
  refine ⟨.slice none 0 0, [], ?_, FrsL.nil w _, ?_, Nat.zero_le _, Below.refl _ _⟩
  · unfold frsN
    rw [if_neg hD]
  · unfold frsV
    rw [if_neg hD]
    rfl
theorem Tryd.infoFrame2 : (Tryd.prog.info? 49).map (fun i => (i.zero, i.size, i.bytes)) = some (some (.agg #[.int .i64 0, .slice none 0 0]), 2, 32) := by kernel_rfl
theorem two_new (w : World) (x y : Value) : ∀ j u, [x, y][j]? = some u → (w.alloc (Obj.cells #[x, y] 49)).cell? ((⟨w.heap.size, 0, none⟩ : Addr).add j) = some u := by
  intro j u hu
  have hb := Box.made w 49 #[x, y]
  have e : (⟨w.heap.size, 0, none⟩ : Addr).add j = ⟨w.heap.size, j, none⟩ := by
    unfold Addr.add
    split <;> simp_all
  rw [e, hb.cell]
  simpa using hu
/-- The invariant behind one more frame. -/
theorem rds_step {D : List Nat} {V : List (Nat × List Nat)} {a f k l : Nat} {B : List Nat} {Q : List FrV} (h : FrInv D V a f) (hD : ∀ x ∈ D, x < 2 ^ 8) (hp : frP (D.drop a) = some (k, B, l)) (hm : Q.map (fun q => (q.K, q.xs)) = V.map (fun p => ((p.1 : Int), p.2.map B8))) (ht : totV Q ≤ a) {A : Option Addr} {c : Nat} :
    a < a + l ∧ a + l ≤ D.length ∧ FrInv D (V ++ [(k, B)]) (a + l) (f - 1) ∧ (Q ++ ([⟨(k : Int), A, c, B.map B8⟩] : List FrV)).map (fun q => (q.K, q.xs)) = (V ++ [(k, B)]).map (fun p => ((p.1 : Int), p.2.map B8)) ∧ totV (Q ++ ([⟨(k : Int), A, c, B.map B8⟩] : List FrV)) ≤ a + l := by
  obtain ⟨h1, h2, h3⟩ := h.step hD hp
  obtain ⟨q1, q2, _, _, _, _⟩ := frP_some (fun x hx => hD x (List.mem_of_mem_drop hx)) hp
  have hl : l = (frB k B).length := by rw [← q1, List.length_take]; omega
  rw [frB_len] at hl
  refine ⟨by omega, h2, h3, by rw [List.map_append, List.map_append, hm]; rfl, ?_⟩
  have hadd : ∀ (P R : List FrV), totV (P ++ R) = totV P + totV R := fun P R => by
    induction P with
    | nil => simp [totV]
    | cons p r ih => rw [List.cons_append, totV, totV, ih]; omega
  rw [hadd]
  simp only [totV, List.length_map]
  omega

set_option maxHeartbeats 3200000 in
theorem implFramesRead_any (A : Option Addr) (c : Nat) (D : List Nat) (b : Addr) (w : World) (hG : NoFrame w b) (hD : Lies w B8 A D) (hw : ∀ x ∈ D, x < 2 ^ 8) (hnc : D.length ≤ c) (hcm : c ≤ 9223372036854775807) (hn : D.length ≤ 17592186044416) :
    Calls Tryd.prog 23 #[.slice A D.length c] w (RdsRes D w) := by
  obtain ⟨i0, hi, hzz⟩ := Option.map_eq_some_iff.1 Tryd.infoFrame2
  simp only [Prod.mk.injEq] at hzz
  obtain ⟨hz0, hz1, hz2⟩ := hzz
  by_cases h8 : D.length ≤ 8000
  · have t8 : decide ((8000 : Int) < (D.length : Int)) = false := by simp; omega
    have t8n : decide (8000 < D.length) = false := by simp; omega
    have HR := Lib.hid fun W (h : Below w.heap.size w W) (a : Nat) => implFrameRead_any A c D (a : Int) b W (hG.below h) (hD.below h) hw hnc hcm hn
    have HW := Lib.hid hw
    have HDone := Lib.hid fun (w' : World) V a f v Q => @rds_done D w w' V a f v Q h8
    clear hG hD hw
    go_enter Tryd.func23, Tryd.ntmps23
    go_wp2
    go_loopw [4, 5] (fun s i wr => ∃ (a f : Nat) (V : List (Nat × List Nat)) (Q : List FrV), i = .int .i64 a ∧ a ≤ D.length ∧ Hid (FrInv D V a f) ∧ Hid (FrsL wr w.heap.size s Q) ∧ Hid (Q.map (fun q => (q.K, q.xs)) = V.map (fun p => ((p.1 : Int), p.2.map B8))) ∧ Hid (totV Q ≤ a) ∧ Hid (Below w.heap.size w wr)) (fun _ i _ => D.length - (intOf i).toNat)
    case atStart => exact ⟨0, D.length + 1, [], [], rfl, Nat.zero_le _, Lib.hid (FrInv.start D), Lib.hid (FrsL.nil w _), Lib.hid rfl, Lib.hid (Nat.zero_le _), Lib.hid (Below.refl _ _)⟩
    case round =>
      obtain ⟨a, f, V, Q, rfl, ha, HI, HL, HM, HT, HB⟩ := hrel
      obtain ⟨As, ds, rfl⟩ := HL.out.len
      have HRd := Lib.hid (rdV_nat ha)
      go_wp2_with fail
      refine (HR.out _ HB.out a).mono ?_
      intro e w1 he
      unfold RdRes at he
      rw [HRd.out] at he
      cases hp : frP (D.drop a) with
      | none =>
        rw [hp] at he
        obtain ⟨rfl, hb1⟩ := he
        have hb2 : Below wr.heap.size wr (w1.alloc (Obj.cells #[.int .i64 0, .slice none 0 0] 49)) := hb1.alloc hb1.size _
        have HE := Lib.hid (HDone.out _ V a f _ Q HI.out hp (HL.out.below hb2 (Nat.le_refl _)) HM.out HT.out (below_then HB.out hb2))
        clear hb1 hb2 hp HRd
        go_wp2
        go_ret2
        exact HE.out
      | some r =>
        obtain ⟨k, B, l⟩ := r
        rw [hp] at he
        obtain ⟨A1, c1, rfl, ho1, hb1⟩ := he
        have HS := Lib.hid (rds_step (A := A1) (c := c1) HI.out HW.out hp HM.out HT.out)
        have hal : a + l ≤ D.length := HS.out.2.1
        have hal0 : a < a + l := HS.out.1
        have hBl : B.length ≤ 8000 := frP_len hp
        have hQ8 : Q.length ≤ 8000 := Nat.le_trans (totV_le Q) (by have := HT.out; omega)
        have hb2 : Below wr.heap.size wr (w1.alloc (Obj.cells #[.int .i64 (k : Int), .slice A1 B.length c1] 49)) := hb1.alloc hb1.size _
        have HL2 := Lib.hid (HL.out.below hb2 (Nat.le_refl _))
        have HO2 : Hid ((w1.alloc (Obj.cells #[.int .i64 (k : Int), .slice A1 B.length c1] 49)).ownsRow wr.heap.size 5 1 (.slice A1 B.length c1) B.length (B.map B8)) := Lib.hid (ho1.alloc _)
        have sx := Box.made w1 49 #[.int .i64 (k : Int), .slice A1 B.length c1]
        have HB2 := Lib.hid hb2
        have HNew : Hid (∀ (j : Nat) (p : FrV), Q[j]? = some p → ∀ k, p.body.ownBlock = some k → k < wr.heap.size) := Lib.hid fun j p hp k e => ((HL.out.own j p hp).lt k e).2
        clear hb1 hb2 hp HRd ho1 HI HM HT HL sx
        have hb3 : Below (w1.alloc (Obj.cells #[.int .i64 (k : Int), .slice A1 B.length c1] 49)).heap.size (w1.alloc (Obj.cells #[.int .i64 (k : Int), .slice A1 B.length c1] 49)) ((w1.alloc (Obj.cells #[.int .i64 (k : Int), .slice A1 B.length c1] 49)).alloc (Obj.cells #[.int .i64 (k : Int), .slice A1 B.length c1] 49)) := (Below.refl _ _).alloc (Nat.le_refl _) _
        have HL3 := Lib.hid (HL2.out.below hb3 (Nat.le_refl _))
        have HO3 := Lib.hid (own_below HO2.out hb3 (Nat.le_refl _))
        have HB3 := Lib.hid (below_then HB.out (below_then HB2.out hb3))
        have hws := HB.out.size
        have hnw := two_new (w1.alloc (Obj.cells #[.int .i64 (k : Int), .slice A1 B.length c1] 49)) (.int .i64 (k : Int)) (.slice A1 B.length c1)
        rw [show (w1.alloc (Obj.cells #[.int .i64 (k : Int), .slice A1 B.length c1] 49)).heap.size = w1.heap.size + 1 by simp] at hnw
        have HNw := Lib.hid hnw
        clear hb3 hnw
        go_wp2_with (at_builtin; refine wpList_append_own _ rfl _ _ 41 rfl w.heap.size 49 i0 (.agg #[.int .i64 0, .slice none 0 0]) 2 32 Tryd.underlying41 hi hz0 hz1 hz2 rfl (by decide) _ _ _ rfl HL3.out.row ⟨w1.heap.size + 1, 0, none⟩ 1 1 [.int .i64 (k : Int), .slice A1 B.length c1] rfl rfl HNw.out (by intro u hu; simp at hu; rcases hu with rfl | rfl <;> rfl) (by unfold maxLen; omega) (by omega) HB3.out.size ?_)
        intro v' w4 hrow hg _
        have HL4 := Lib.hid (HL3.out.add (K := (k : Int)) (xs := B.map B8) (by rw [List.length_map]; exact HO3.out) hws HNew.out (by rw [List.length_map]; exact hrow) hg)
        have HB4 : Hid (Below w.heap.size w w4) := Lib.hid (HB3.out.trans ⟨hg.os, hg.tape, hg.output, hg.size, fun j hj => hg.block j (Nat.lt_of_lt_of_le hj HB3.out.size) fun e => by
          have := (rowF_kind HL3.out.row e.symm).1
          omega⟩)
        obtain ⟨a2, ha2⟩ : ∃ a2, a + l = a2 := ⟨_, rfl⟩
        have e2 : (a : Int) + (l : Int) = (a2 : Int) := by omega
        rw [ha2] at HS hal hal0
        clear hrow hg HL3 HO3 HL2 HO2 HNew HNw ha2
        rw [e2]
        go_wp2
        go_roundw
        case rel => exact ⟨a2, f - 1, V ++ [(k, B)], Q ++ [⟨(k : Int), A1, c1, B.map B8⟩], rfl, hal, Lib.hid HS.out.2.2.1, HL4, Lib.hid HS.out.2.2.2.1, Lib.hid HS.out.2.2.2.2, HB4⟩
        case measure => simp [intOf]; omega
  · have t8 : decide ((8000 : Int) < (D.length : Int)) = true := by simp; omega
    have t8n : decide (8000 < D.length) = true := by simp; omega
    have HE := Lib.hid (rds_long (w := w) h8)
    clear hG hD hw
    go_enter Tryd.func23, Tryd.ntmps23
    go_wp2
    go_ret2
    exact HE.out

end Go.Proofs.YtlbnngolcoefdaaDoor
