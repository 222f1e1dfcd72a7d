/- The law FnRankSelect walked. -/
import Derived.Test.YtanllfidbhjboaaDoorDrawSelC
import Derived.Test.YtanllfidbhjboaaDoorSelM3
import Derived.Test.YtanllfidbhjboaaDoorSel6
import Derived.Test.YtanllfidbhjboaaDoorAt2
namespace Go.Proofs.YtanllfidbhjboaaDoor
open Go.RowKit
set_option maxRecDepth 100000

set_option maxHeartbeats 400000 in
theorem lawRS_big (A : Option Addr) (n c : Nat) (w : World) (h : 1048576 < n) :
    Calls Tryd.prog 3 #[.slice A n c] w fun e w' => e = .returned (.bool true) ∧ Below w.heap.size w w' := by
  have C := Lib.hid (big_any A n c w)
  rw [decide_eq_true h] at C
  go_enter Tryd.func3, Tryd.ntmps3
  go_wp2_with fail
  refine C.out.mono ?_
  rintro e w1 ⟨rfl, rfl⟩
  go_wp2
  go_ret
  exact ⟨rfl, Below.refl _ _⟩

theorem bitAtV_in {n i : Nat} {L : List Nat} (hok : okB n L = true) (hi : i < n) : bitAtV n L i = (bitN L i : Int) := by
  unfold bitAtV
  rw [if_pos ⟨hok, by omega, by omega⟩, Int.toNat_natCast]

set_option maxHeartbeats 3200000 in
theorem lawRS (A : Option Addr) (c : Nat) (D : List Nat) (w : World) (hD : Lies w B8 A D) (hw : ∀ x ∈ D, x < 2 ^ 8) (hl : D.length ≤ 1048576) (hT : Tab w) :
    Calls Tryd.prog 3 #[.slice A D.length c] w fun e w' => e = .returned (.bool true) ∧ Below w.heap.size w w' := by
  have C := Lib.hid (big_any A D.length c w)
  rw [decide_eq_false (by omega)] at C
  have HD := Lib.hid hD
  have HW := Lib.hid hw
  have HT := Lib.hid hT
  clear hD hw hT
  go_enter Tryd.func3, Tryd.ntmps3
  go_wp2_with fail
  refine C.out.mono ?_
  rintro e w0 ⟨rfl, rfl⟩
  go_wp2_with fail
  refine (drawSel_any A c D w HD.out HW.out hl).mono ?_
  rintro e w1 ⟨N, A1, c1, L, b, k, rfl, hL, hLb, hL8, hc1, hc2, hN, hB, hK, hb1⟩
  have HL := Lib.hid hL
  have HLb := Lib.hid hLb
  have HB1 := Lib.hid hb1
  replace HT := Lib.hid (HT.out.below hb1)
  clear hL hLb hb1 HD C
  go_wp2_with fail
  have sc := (Scene.start w1).box 26 #[.int .i64 N, .slice A1 L.length c1]
  generalize w1.alloc (Obj.cells #[.int .i64 N, .slice A1 L.length c1] 26) = w2 at *
  refine (implSel_any N A1 c1 L b k w2 (sc.liesOld HL.out) HLb.out hK.2 (HT.out.below sc.below)).mono ?_
  rintro e w3 ⟨rfl, hb⟩
  replace sc := sc.step hb
  clear hb
  obtain ⟨a0, a1, al⟩ := sc.two 0 rfl
  go_wp2_with fail
  refine (specSel_any N A1 c1 L b k w3 (sc.liesOld HL.out) HLb.out hK.2).mono ?_
  rintro e w4 ⟨rfl, hb⟩
  replace sc := sc.step hb
  clear hb a0 a1 al
  by_cases hneg : selV N L b k < 0
  · obtain ⟨v, hv⟩ : ∃ v, selV N L b k = v := ⟨_, rfl⟩
    rw [hv] at hneg ⊢
    have t0 : (v != v) = false := by simp
    have t1 : decide (v < 0) = true := decide_eq_true hneg
    have HB := Lib.hid sc.below
    clear sc hv
    go_wp2
    go_ret
    exact ⟨rfl, HB1.out.trans (HB.out.mono HB1.out.size)⟩
  · obtain ⟨n, m, i, rfl, rfl, hn5, hin, hmi, hb01, hok, hsel, hbit, r1, r2, r3⟩ := sel_law (show 0 ≤ selV N L b k by omega)
    rw [hsel]
    have hat := (bitAtV_in hok hin).trans hbit
    have t0 : ((i : Int) != (i : Int)) = false := by simp
    have t1 : decide ((i : Int) < 0) = false := decide_eq_false (by omega)
    have e1 : IntKind.i64.wrap ((i : Int) + 1) = (i : Int) + 1 := (IntKind.wrap_i64 _).trans (by omega)
    have e2 : IntKind.i64.wrap ((m : Int) + 1) = (m : Int) + 1 := (IntKind.wrap_i64 _).trans (by omega)
    have e3 : IntKind.i64.wrap (1 - b) = 1 - b := (IntKind.wrap_i64 _).trans (by omega)
    have e4 : IntKind.i64.wrap ((i : Int) - (m : Int)) = (i : Int) - (m : Int) := (IntKind.wrap_i64 _).trans (by omega)
    have HR := Lib.hid (show _ ∧ _ ∧ _ ∧ _ from ⟨r1, r2, r3, hat⟩)
    clear hsel hneg hbit r1 r2 r3 hat hok hn5 hin hb01
    obtain ⟨a0, a1, al⟩ := sc.two 0 rfl
    go_wp2_with fail
    have C1 := implRank_any n A1 c1 L b i w4 (sc.liesOld HL.out) HLb.out hc1 hc2
    rw [HR.out.1] at C1
    refine C1.mono ?_
    rintro e w5 ⟨rfl, hb⟩
    replace sc := sc.step hb
    clear hb a0 a1 al C1
    obtain ⟨a0, a1, al⟩ := sc.two 0 rfl
    go_wp2_with fail
    have C1 := implRank_any n A1 c1 L b ((i : Int) + 1) w5 (sc.liesOld HL.out) HLb.out hc1 hc2
    rw [HR.out.2.1] at C1
    refine C1.mono ?_
    rintro e w6 ⟨rfl, hb⟩
    replace sc := sc.step hb
    clear hb a0 a1 al C1
    obtain ⟨a0, a1, al⟩ := sc.two 0 rfl
    go_wp2_with fail
    have C1 := implAt_any n A1 c1 L i w6 (sc.liesOld HL.out) HLb.out
    rw [HR.out.2.2.2] at C1
    refine C1.mono ?_
    rintro e w7 ⟨rfl, hb⟩
    replace sc := sc.step hb
    clear hb a0 a1 al C1
    obtain ⟨a0, a1, al⟩ := sc.two 0 rfl
    go_wp2_with fail
    have C1 := implRank_any n A1 c1 L (1 - b) i w7 (sc.liesOld HL.out) HLb.out hc1 hc2
    rw [HR.out.2.2.1] at C1
    refine C1.mono ?_
    rintro e w8 ⟨rfl, hb⟩
    replace sc := sc.step hb
    clear hb a0 a1 al C1
    have HB := Lib.hid sc.below
    clear sc
    go_wp2
    go_ret
    exact ⟨rfl, HB1.out.trans (HB.out.mono HB1.out.size)⟩

end Go.Proofs.YtanllfidbhjboaaDoor
