/- The law FnBitsJoin walked. -/
import Derived.Test.YticndfdicalmcaaDraw8
import Derived.Test.YticndfdicalmcaaSame2
import Derived.Test.YticndfdicalmcaaJMath
import Derived.Test.YticndfdicalmcaaJoin5
import Derived.Test.YticndfdicalmcaaRank4s
import Derived.Test.YticndfdicalmcaaSel5
import Derived.Deep.RegionHeld3
namespace Go.Proofs.Yticndfdicalmcaa
open Go.RowKit
set_option maxRecDepth 100000

set_option maxHeartbeats 400000 in
theorem lawBJ_big (A : Option Addr) (n c : Nat) (w : World) (h : 1048576 < n) :
    Calls Try.prog 3 #[.slice A n c] w fun e w' => e = .returned (.bool true) ∧ Below w.heap.size w w' := by
  have C := Lib.hid (big_any A n c w)
  rw [decide_eq_true h] at C
  go_enter Try.func3, Try.ntmps3
  go_wp2_with fail
  refine C.out.mono ?_
  rintro e w1 ⟨rfl, rfl⟩
  go_wp2
  go_ret
  exact ⟨rfl, Below.refl _ _⟩

set_option maxHeartbeats 3200000 in
theorem lawBJ (A : Option Addr) (c : Nat) (D : List Nat) (w : World) (hD : Lies w B8 A D) (hw : ∀ x ∈ D, x < 2 ^ 8) (hl : D.length ≤ 1048576) :
    Calls Try.prog 3 #[.slice A D.length c] w fun e w' => e = .returned (.bool true) ∧ Below w.heap.size w w' := by
  have C := Lib.hid (big_any A D.length c w)
  rw [decide_eq_false (by omega)] at C
  have HD := Lib.hid hD
  have HW := Lib.hid hw
  clear hD hw
  go_enter Try.func3, Try.ntmps3
  go_wp2_with fail
  refine C.out.mono ?_
  rintro e w0 ⟨rfl, rfl⟩
  go_wp2_with fail
  refine (drawJoin_any A c D w HD.out HW.out hl).mono ?_
  rintro e w1 ⟨N, A1, c1, L, M, A2, c2, K, rfl, hL, hK, hLb, hKb, hL8, hK8, hN, hM, hb1⟩
  have HL := Lib.hid hL
  have HK := Lib.hid hK
  have HLb := Lib.hid hLb
  have HKb := Lib.hid hKb
  have HB1 := Lib.hid hb1
  have HD1 := Lib.hid (HD.out.below hb1)
  clear hL hK hLb hKb hb1 HD C
  go_wp2_with fail
  have sc := ((Scene.start w1).box 26 #[.int .i64 N, .slice A1 L.length c1]).box 26 #[.int .i64 M, .slice A2 K.length c2]
  rw [World.size_alloc] at sc
  generalize (w1.alloc (Obj.cells #[.int .i64 N, .slice A1 L.length c1] 26)).alloc (Obj.cells #[.int .i64 M, .slice A2 K.length c2] 26) = w2 at *
  refine (specJoin_any N A1 c1 L M A2 c2 K w2 (sc.liesOld HL.out) HLb.out (sc.liesOld HK.out) HKb.out).mono ?_
  rintro e w3 ⟨AR, cR, rfl, ho, hb⟩
  replace sc := sc.row hb ho
  clear hb ho
  obtain ⟨a0, a1, al⟩ := sc.two 2 rfl
  obtain ⟨b0, b1, bl⟩ := sc.two 1 rfl
  go_wp2_with fail
  replace sc := sc.box 26 #[.int .i64 (jN N L M K), .slice AR (jW N L M K).length cR]
  clear a0 a1 al b0 b1 bl
  generalize w3.alloc (Obj.cells #[.int .i64 (jN N L M K), .slice AR (jW N L M K).length cR] 26) = w4 at *
  generalize w3.heap.size = rb at *
  refine (implJoin_any N A1 c1 L M A2 c2 K w4 (sc.liesOld HL.out) HLb.out (sc.liesOld HK.out) HKb.out).mono ?_
  rintro e w5 ⟨AG, cG, rfl, ho, hb⟩
  replace sc := sc.row hb ho
  clear hb ho
  cases hok : jOk N L M K
  · have HB := Lib.hid sc.below
    clear sc
    go_wp2
    go_ret
    exact ⟨rfl, HB1.out.trans ((HB.out.alloc HB.out.size _).mono HB1.out.size)⟩
  · obtain ⟨n, m, t, rfl, rfl, hnm, ht5, eN, okJ, lJ, bJ, hcnt, okF, bF, ff⟩ := join_law hok
    rw [eN] at sc ⊢
    clear eN hok
    generalize jW (n : Int) L (m : Int) K = J at *
    obtain ⟨hc1, hc2⟩ := own_cap (sc.getRow 0 rfl)
    obtain ⟨b0, b1, bl⟩ := sc.two 3 rfl
    have hm1 : IntKind.i64.wrap ((m : Int) + 1) = (m : Int) + 1 := (IntKind.wrap_i64 _).trans (by omega)
    have HJ := Lib.hid (show _ ∧ _ ∧ _ from ⟨okJ, lJ, bJ⟩)
    have HF := Lib.hid (show _ ∧ _ ∧ _ from ⟨okF, bF, ff⟩)
    have HC := Lib.hid hcnt
    have hJ8 : J.length ≤ 80 := by omega
    clear okJ lJ bJ okF bF ff hcnt
    go_wp2_with fail
    replace sc := sc.box 26 #[.int .i64 (t : Int), .slice AG J.length cG]
    clear b0 b1 bl
    generalize w5.alloc (Obj.cells #[.int .i64 (t : Int), .slice AG J.length cG] 26) = w6 at *
    generalize w5.heap.size = jb at *
    refine (lpick_any A c D 3 ((m : Int) + 1) w6 (sc.liesOld HD1.out) HW.out hl (by omega) (by omega)).mono ?_
    rintro e w7 ⟨i, rfl, hpick, rfl⟩
    have him : i ≤ m := by
      have := hpick
      unfold LPick at this
      omega
    clear hpick
    obtain ⟨s, hs⟩ : ∃ s : Nat, n + i = s := ⟨_, rfl⟩
    have es : (n : Int) + (i : Int) = (s : Int) := by omega
    obtain ⟨k1, k2, k3, k4, k5, k6⟩ := HC.out i him
    rw [es] at k1 k2
    obtain ⟨a, ha⟩ : ∃ a, rankV (n : Int) L 1 (n : Int) = a := ⟨_, rfl⟩
    obtain ⟨b, hb⟩ : ∃ b, rankV (m : Int) K 1 (i : Int) = b := ⟨_, rfl⟩
    obtain ⟨r, hr⟩ : ∃ r, a + b = r := ⟨_, rfl⟩
    rw [ha, hb] at k1
    rw [ha] at k3 k4
    rw [hb] at k5 k6
    rw [hr] at k1
    rw [k1] at k2
    have hws : IntKind.i64.wrap ((n : Int) + (i : Int)) = (s : Int) := (IntKind.wrap_i64 _).trans (by omega)
    have hwt : IntKind.i64.wrap ((n : Int) + (m : Int)) = (t : Int) := (IntKind.wrap_i64 _).trans (by omega)
    have hwr : IntKind.i64.wrap (a + b) = r := (IntKind.wrap_i64 _).trans (by omega)
    have HR := Lib.hid (show _ ∧ _ ∧ _ ∧ _ from ⟨k1, k2, ha, hb⟩)
    clear k1 k2 k3 k4 k5 k6 ha hb hr es HC
    obtain ⟨z0, z1, zl⟩ := sc.two 0 rfl
    go_wp2_with fail
    refine (implFlip_ok t AG cG J w6 (sc.lies 1 rfl) HJ.out.2.2 HJ.out.1 ht5 (Lib.hid HJ.out.2.1)).mono ?_
    rintro e w8 ⟨AF, cF, rfl, ho, hb⟩
    replace sc := sc.row hb ho
    clear hb ho z0 z1 zl
    generalize flipW t J = F at *
    go_wp2_with fail
    replace sc := sc.box 26 #[.int .i64 (t : Int), .slice AF F.length cF]
    generalize w8.alloc (Obj.cells #[.int .i64 (t : Int), .slice AF F.length cF] 26) = w9 at *
    generalize w8.heap.size = fb at *
    obtain ⟨x0, x1, xl⟩ := sc.two 7 rfl
    obtain ⟨y0, y1, yl⟩ := sc.two 6 rfl
    obtain ⟨z0, z1, zl⟩ := sc.two 2 rfl
    obtain ⟨u0, u1, ul⟩ := sc.two 0 rfl
    have HS : Hid (∀ W, Below w9.heap.size w9 W → W.cell? ⟨w1.heap.size, 0, none⟩ = some (.int .i64 n) ∧ W.cell? ⟨w1.heap.size, 1, none⟩ = some (.slice A1 L.length c1) ∧ W.cell? ⟨w1.heap.size + 1, 0, none⟩ = some (.int .i64 m) ∧ W.cell? ⟨w1.heap.size + 1, 1, none⟩ = some (.slice A2 K.length c2) ∧ W.cell? ⟨jb, 0, none⟩ = some (.int .i64 t) ∧ W.cell? ⟨jb, 1, none⟩ = some (.slice AG J.length cG) ∧ W.cell? ⟨fb, 0, none⟩ = some (.int .i64 t) ∧ W.cell? ⟨fb, 1, none⟩ = some (.slice AF F.length cF)) := Lib.hid fun W hW =>
      ⟨(hW.cell (p := ⟨_, 0, none⟩) xl).trans x0, (hW.cell (p := ⟨_, 1, none⟩) xl).trans x1, (hW.cell (p := ⟨_, 0, none⟩) yl).trans y0, (hW.cell (p := ⟨_, 1, none⟩) yl).trans y1, (hW.cell (p := ⟨_, 0, none⟩) zl).trans z0, (hW.cell (p := ⟨_, 1, none⟩) zl).trans z1, (hW.cell (p := ⟨_, 0, none⟩) ul).trans u0, (hW.cell (p := ⟨_, 1, none⟩) ul).trans u1⟩
    have hG := sc.lies 3 rfl (f := U) (A := AG) (L := J)
    have hF := sc.lies 1 rfl (f := U) (A := AF) (L := F)
    have hV := sc.liesOld HL.out
    have hK := sc.liesOld HK.out
    obtain ⟨g1, g2⟩ := own_cap (sc.getRow 1 rfl)
    have CJ : Hid (∀ W, Below w9.heap.size w9 W → Calls Try.prog 21 #[.agg #[.int .i64 t, .slice AG J.length cG], .int .i64 1, .int .i64 s] W fun e w' => e = .returned (.int .i64 r) ∧ Below w9.heap.size w9 w') := Lib.hid fun W hW =>
      (implRank_any t AG cG J 1 s W (hG.below hW) HJ.out.2.2 hc1 hc2).mono fun e w' h => ⟨by rw [h.1, HR.out.1], hW.trans (h.2.mono hW.size)⟩
    have CV : Hid (∀ W, Below w9.heap.size w9 W → Calls Try.prog 22 #[.agg #[.int .i64 n, .slice A1 L.length c1], .int .i64 1, .int .i64 n] W fun e w' => e = .returned (.int .i64 a) ∧ Below w9.heap.size w9 w') := Lib.hid fun W hW =>
      (specRank_any n A1 c1 L 1 n W (hV.below hW) HLb.out).mono fun e w' h => ⟨by rw [h.1, HR.out.2.2.1], hW.trans (h.2.mono hW.size)⟩
    have CW : Hid (∀ W, Below w9.heap.size w9 W → Calls Try.prog 22 #[.agg #[.int .i64 m, .slice A2 K.length c2], .int .i64 1, .int .i64 i] W fun e w' => e = .returned (.int .i64 b) ∧ Below w9.heap.size w9 w') := Lib.hid fun W hW =>
      (specRank_any m A2 c2 K 1 i W (hK.below hW) HKb.out).mono fun e w' h => ⟨by rw [h.1, HR.out.2.2.2], hW.trans (h.2.mono hW.size)⟩
    have CF : Hid (∀ W, Below w9.heap.size w9 W → Calls Try.prog 21 #[.agg #[.int .i64 t, .slice AF F.length cF], .int .i64 0, .int .i64 s] W fun e w' => e = .returned (.int .i64 r) ∧ Below w9.heap.size w9 w') := Lib.hid fun W hW =>
      (implRank_any t AF cF F 0 s W (hF.below hW) HF.out.2.1 g1 g2).mono fun e w' h => ⟨by rw [h.1, HR.out.2.1], hW.trans (h.2.mono hW.size)⟩
    have CB : Hid (∀ W, Below w9.heap.size w9 W → Calls Try.prog 20 #[.agg #[.int .i64 t, .slice AF F.length cF]] W fun e w' => ∃ A7 c7, e = .returned (.agg #[.int .i64 t, .slice A7 J.length c7]) ∧ Lies w' U A7 J ∧ Below w9.heap.size w9 w') := Lib.hid fun W hW => by
      obtain ⟨t2, et, _, lF, _⟩ := okB_nat HF.out.1
      have e2 : t2 = t := by omega
      subst e2
      refine (implFlip_ok t2 AF cF F W (hF.below hW) HF.out.2.1 HF.out.1 ht5 (Lib.hid lF)).mono ?_
      rintro e w' ⟨A7, c7, rfl, ho, hb⟩
      rw [HF.out.2.2] at ho ⊢
      exact ⟨A7, c7, rfl, Lies.of_own ho, hW.trans (hb.mono hW.size)⟩
    have CS : Hid (∀ A7 c7 W, Below w9.heap.size w9 W → Lies W U A7 J → Calls Try.prog 23 #[.agg #[.int .i64 t, .slice A7 J.length c7], .agg #[.int .i64 t, .slice AG J.length cG]] W fun e w' => e = .returned (.bool true) ∧ Below w9.heap.size w9 w') := Lib.hid fun A7 c7 W hW h7 =>
      (sameBits_true t A7 AG c7 cG J W h7 (hG.below hW) (by omega)).mono fun e w' h => ⟨h.1, hW.trans (h.2.mono hW.size)⟩
    have HB := Lib.hid sc.below
    have inv : Below w9.heap.size w9 w9.drew := (Below.refl _ _).drew
    clear sc hG hF hV hK g1 g2 hc1 hc2 hs xl yl zl ul
    go_region_held3 (fun w' => w'.cell? ⟨w1.heap.size, 0, none⟩ = some (.int .i64 n) ∧ w'.cell? ⟨w1.heap.size, 1, none⟩ = some (.slice A1 L.length c1) ∧ w'.cell? ⟨w1.heap.size + 1, 0, none⟩ = some (.int .i64 m) ∧ w'.cell? ⟨w1.heap.size + 1, 1, none⟩ = some (.slice A2 K.length c2) ∧ w'.cell? ⟨jb, 0, none⟩ = some (.int .i64 t) ∧ w'.cell? ⟨jb, 1, none⟩ = some (.slice AG J.length cG) ∧ w'.cell? ⟨fb, 0, none⟩ = some (.int .i64 t) ∧ w'.cell? ⟨fb, 1, none⟩ = some (.slice AF F.length cF)) (first | exact HS.out _ inv | go_keep) (first | (go_at_call 21; (with_reducible refine Calls.mono (CJ.out _ inv) ?_); rintro e w10 ⟨rfl, inv2⟩; replace inv := inv2; clear inv2; obtain ⟨x0, x1, y0, y1, z0, z1, u0, u1⟩ := HS.out _ inv) | (go_at_call 22; (with_reducible refine Calls.mono (CV.out _ inv) ?_); rintro e w11 ⟨rfl, inv2⟩; replace inv := inv2; clear inv2; obtain ⟨x0, x1, y0, y1, z0, z1, u0, u1⟩ := HS.out _ inv) | (go_at_call 22; (with_reducible refine Calls.mono (CW.out _ inv) ?_); rintro e w12 ⟨rfl, inv2⟩; replace inv := inv2; clear inv2; obtain ⟨x0, x1, y0, y1, z0, z1, u0, u1⟩ := HS.out _ inv) | (go_at_call 21; (with_reducible refine Calls.mono (CF.out _ inv) ?_); rintro e w13 ⟨rfl, inv2⟩; replace inv := inv2; clear inv2; obtain ⟨x0, x1, y0, y1, z0, z1, u0, u1⟩ := HS.out _ inv) | (go_at_call 20; (with_reducible refine Calls.mono (CB.out _ inv) ?_); rintro e w14 ⟨A7, c7, rfl, h7, inv2⟩; replace inv := inv2; clear inv2; obtain ⟨x0, x1, y0, y1, z0, z1, u0, u1⟩ := HS.out _ inv) | (go_at_call 23; (with_reducible refine Calls.mono (CS.out A7 c7 _ inv h7) ?_); rintro e w15 ⟨rfl, inv2⟩; replace inv := inv2; clear inv2; obtain ⟨x0, x1, y0, y1, z0, z1, u0, u1⟩ := HS.out _ inv))
    have HI := Lib.hid inv
    clear inv x0 x1 y0 y1 z0 z1 u0 u1 CJ CV CW CF CB CS HS HJ HF HR
    go_wp2
    go_ret
    exact ⟨rfl, HB1.out.trans ((HB.out.trans (HI.out.mono HB.out.size)).mono HB1.out.size)⟩

end Go.Proofs.Yticndfdicalmcaa
