/- slices.Concat of two rows of numbers. -/
import Derived.Test.YtoehgcakfblblaaGrow1
namespace Go.Proofs.Ytoehgcakfblblaa
open Go.RowKit
set_option maxRecDepth 100000

set_option maxHeartbeats 3200000 in
theorem concat_any (g zl ol zc oc : Nat) (ZA OA : Option Addr) (ZL OL : List Int) (w : World) (c0 : w.cell? ⟨g, 0, none⟩ = some (.slice ZA zl zc)) (c1 : w.cell? ⟨g, 1, none⟩ = some (.slice OA ol oc)) (hg : g < w.heap.size)
    (hZ : Lies w I ZA ZL) (hO : Lies w I OA OL) (hZt : Tidy ZA zc) (hOt : Tidy OA oc) (hzl : ZL.length = zl) (hol : OL.length = ol) (hz1 : zl ≤ 1000) (ho1 : ol ≤ 1000) :
    Calls Try.prog 108 #[.slice (some ⟨g, 0, none⟩) 2 2] w fun e w' => ∃ A c, e = .returned (.slice A (zl + ol) c) ∧ w'.ownsRow w.heap.size 3 1 (.slice A (zl + ol) c) (zl + ol) ((ZL ++ OL).map I) ∧ Below w.heap.size w w' := by
  obtain ⟨s, hs⟩ : ∃ s, zl + ol = s := ⟨_, rfl⟩
  rw [hs]
  have CG := Lib.hid (growNil_any s w (by omega))
  obtain ⟨E, hE⟩ : ∃ E, ZL ++ OL = E := ⟨_, rfl⟩
  rw [hE]
  have HL3 : Hid (E.length = s) := Lib.hid (by rw [← hE, List.length_append, hzl, hol, hs])
  have HE := Lib.hid hE
  clear hE
  have HZ := Lib.hid fun (W : World) (hW : Below w.heap.size w W) => hZ.below hW
  have HO := Lib.hid fun (W : World) (hW : Below w.heap.size w W) => hO.below hW
  have HK0 := Lib.hid fun (W : World) (hW : Below w.heap.size w W) => (hW.cell (p := ⟨g, 0, none⟩) hg).trans c0
  have HK1 := Lib.hid fun (W : World) (hW : Below w.heap.size w W) => (hW.cell (p := ⟨g, 1, none⟩) hg).trans c1
  have HT0 := Lib.hid hZt
  have HT1 := Lib.hid hOt
  have Hzl := Lib.hid hzl
  have Hol := Lib.hid hol
  have e1 : IntKind.i64.wrap (zl : Int) = (zl : Int) := IntWalk.i64_in _ (by omega)
  have e2 : IntKind.i64.wrap ((zl : Int) + (ol : Int)) = (s : Int) := by rw [IntWalk.i64_in _ (by omega)]; omega
  have e3 : (zl : Int) + (ol : Int) = (s : Int) := by omega
  have e4 : IntKind.i64.wrap (s : Int) = (s : Int) := IntWalk.i64_in _ (by omega)
  have d1 : decide ((zl : Int) < 0) = false := by simp
  have d2 : decide ((s : Int) < 0) = false := by simp
  clear hZ hO hZt hOt hzl hol
  have Hs := Lib.hid hs
  have Hb := Lib.hid (show zl + ol ≤ 2000 by omega)
  clear hs
  go_enter Try.func108, Try.ntmps108
  go_wp2
  refine wp_loop_rounds 3 ?_
  rw [rounds_succ]
  go_wp2
  rw [rounds_succ]
  go_wp2
  rw [rounds_succ]
  go_wp2_with fail
  refine CG.out.mono ?_
  rintro e w1 ⟨A1, k1, rfl, ho1, hb1⟩
  have HO1 := Lib.hid ho1
  have HB1 := Lib.hid hb1
  have x0 := HK0.out _ hb1
  clear ho1 hb1 CG c0 c1
  go_wp2
  refine wp_loop_rounds 3 ?_
  rw [rounds_succ]
  go_wp2_with (at_builtin; refine wpList_append_ints _ rfl _ _ rfl w.heap.size _ [] rfl HO1.out ZA zc ZL (by rw [Hzl.out]; rfl) (HZ.out _ HB1.out) HT0.out ZL rfl (by rw [Hzl.out]; simp; omega) HB1.out.size ?_)
  intro A2 k2 w2 ho2 hg2
  have HB2 := Lib.hid (HB1.out.trans (grown_below HO1.out hg2 (Nat.le_refl _) HB1.out.size))
  rw [Hzl.out] at ho2
  have HO2 := Lib.hid ho2
  have x1 := HK1.out _ HB2.out
  clear ho2 hg2 x0 HO1 HB1
  rw [Hzl.out]
  go_wp2
  rw [rounds_succ]
  go_wp2_with (at_builtin; refine wpList_append_ints _ rfl _ _ rfl w.heap.size _ ZL rfl (by rw [Hzl.out]; exact HO2.out) OA oc OL (by rw [Hol.out]; rfl) (HO.out _ HB2.out) HT1.out E HE.out (by rw [Hzl.out, Hol.out]; have := Hb.out; omega) HB2.out.size ?_)
  intro A3 k3 w3 ho3 hg3
  have HB3 := Lib.hid (HB2.out.trans (grown_below HO2.out hg3 (Nat.le_refl _) HB2.out.size))
  rw [HL3.out] at ho3
  have HO3 := Lib.hid ho3
  clear ho3 hg3 x1 HO2 HB2
  rw [HL3.out]
  go_wp2
  rw [rounds_succ]
  go_wp2
  go_ret
  exact ⟨_, _, rfl, HO3.out, HB3.out⟩

end Go.Proofs.Ytoehgcakfblblaa
