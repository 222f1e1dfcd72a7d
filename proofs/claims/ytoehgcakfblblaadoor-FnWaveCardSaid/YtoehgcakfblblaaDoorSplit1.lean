/- splitBy of the program: the bits of a level, and the list in its new order. -/
import Derived.Test.YtoehgcakfblblaaDoorTri1
import Derived.Test.YtoehgcakfblblaaDoorWv1
import Derived.Test.YtoehgcakfblblaaDoorConcat1
namespace Go.Proofs.YtoehgcakfblblaaDoor
open Go.RowKit
set_option maxRecDepth 100000

set_option maxHeartbeats 3200000 in
theorem splitBy_any (A : Option Addr) (c n k : Nat) (X : List Int) (w : World) (hL : Lies w I A X) (hk : k ≤ 8) (hX : ∀ x ∈ X, 0 ≤ x ∧ x ≤ 511) (hl : X.length = n) (hn : n ≤ 1000) :
    Calls Tryd.prog 24 #[.slice A n c, .int .i64 k] w fun e w' => ∃ A1 c1 A2 c2, e = .returned (.tuple #[.slice A1 n c1, .slice A2 n c2]) ∧ w'.ownsRow w.heap.size 3 1 (.slice A1 n c1) n ((X.map (wb (8 - k))).map I) ∧ w'.ownsRow w.heap.size 3 1 (.slice A2 n c2) n ((wre (8 - k) X).map I) ∧ Below w.heap.size w w' := by
  have HL := Lib.hid hL
  have HX := Lib.hid hX
  have Hl := Lib.hid hl
  obtain ⟨m, hm⟩ : ∃ m, 8 - k = m := ⟨_, rfl⟩
  have CW := Lib.hid fun (y : Nat) (hy : y < 2 ^ 62) (W : World) => waveBit_any y k W hy hk
  rw [hm] at CW ⊢
  have HI0 : Hid (Tri 3 w w (.slice none 0 0) 0 ((X.take 0).map (wb m)) (.slice none 0 0) 0 (wlow m (X.take 0)) (.slice none 0 0) 0 (whigh m (X.take 0))) := Lib.hid (Tri.nil w (Below.refl _ _))
  clear hL hX hl hm
  go_enter Tryd.func24, Tryd.ntmps24
  go_wp2
  go_loopw [6, 7, 8, 14] (fun r z o t wr => ∃ (i : Nat) (RA ZA OA : Option Addr) (rc zc oc zl ol : Nat), i ≤ n ∧ t = .int .i64 i ∧ r = .slice RA i rc ∧ z = .slice ZA zl zc ∧ o = .slice OA ol oc ∧ zl + ol = i ∧ Hid (Tri 3 w wr (.slice RA i rc) i ((X.take i).map (wb m)) (.slice ZA zl zc) zl (wlow m (X.take i)) (.slice OA ol oc) ol (whigh m (X.take i)))) (fun _ _ _ t _ => n - (intOf t).toNat)
  case atStart => exact ⟨0, none, none, none, 0, 0, 0, 0, 0, Nat.zero_le _, rfl, rfl, rfl, rfl, rfl, HI0⟩
  case round =>
    obtain ⟨i, RA, ZA, OA, rc, zc, oc, zl, ol, hi, rfl, rfl, rfl, rfl, hsum, HI⟩ := hrel
    clear HI0
    by_cases hlt : i < n
    · obtain ⟨b, o, x, hA, hbl, hx, hc⟩ := (HL.out.below HI.out.below).at_ (i := i) (by rw [Hl.out]; exact hlt)
      subst hA
      have hx01 := HX.out x (List.mem_of_getElem? hx)
      obtain ⟨y, rfl⟩ := Int.eq_ofNat_of_zero_le hx01.1
      have CB := Lib.hid (CW.out y (by omega))
      have hwb : ((y / 2 ^ m % 2 : Nat) : Int) = wb m (y : Int) := by unfold wb; simp
      have HXx := Lib.hid hx
      have HM := Lib.hid (wbits_more (m := m) hx)
      rw [← hwb] at HM
      have hb2 : y / 2 ^ m % 2 < 2 := Nat.mod_lt _ (by omega)
      obtain ⟨bit, hbit⟩ : ∃ bit, y / 2 ^ m % 2 = bit := ⟨_, rfl⟩
      rw [hbit] at CB hwb HM hb2
      have HW := Lib.hid hwb
      have i0 : (0 : Int) ≤ (i : Int) := by omega
      have i1 : (i : Int) < (n : Int) := by omega
      obtain ⟨RL, hRL⟩ : ∃ RL, (X.take i).map (wb m) = RL := ⟨_, rfl⟩
      obtain ⟨ZL, hZL⟩ : ∃ ZL, wlow m (X.take i) = ZL := ⟨_, rfl⟩
      obtain ⟨OL, hOL⟩ : ∃ OL, whigh m (X.take i) = OL := ⟨_, rfl⟩
      rw [hRL, hZL, hOL] at HI
      rw [hRL] at HM
      have HZL := Lib.hid hZL
      have HOL := Lib.hid hOL
      clear hx hbit hwb CW hRL hZL hOL
      go_wp2_with fail
      refine (CB.out _).mono ?_
      rintro e w1 ⟨rfl, rfl⟩
      go_wp2_with (at_builtin; refine wpList_push_own rfl _ _ 24 3 rfl Tryd.underlying24 Tryd.infoInt rfl (by omega) w.heap.size _ _ i _ rfl HI.out.ra _ rfl rfl HI.out.below.size (by omega) ?_)
      intro RA2 rc2 w2 ho2 hg2 hm2
      have HI2 := Lib.hid (HI.out.push ho2 hg2 hm2)
      rw [← HM.out] at HI2
      clear ho2 hg2 hm2 HI
      by_cases hb0 : bit = 0
      · have tb : decide ((bit : Int) = 0) = true := by simp; omega
        have tb2 : ((bit : Int) == 0) = true := by simp; omega
        have HS := Lib.hid (low_yes HXx.out (m := m) (by rw [← HW.out]; omega))
        rw [HZL.out, HOL.out] at HS
        clear hb0 hb2
        go_wp2_with (at_builtin; refine wpList_push_own rfl _ _ 24 3 rfl Tryd.underlying24 Tryd.infoInt rfl (by omega) w.heap.size _ _ zl _ rfl HI2.out.rb _ rfl rfl HI2.out.below.size (by omega) ?_)
        intro ZA3 zc3 w3 ho3 hg3 hm3
        have HI3 := Lib.hid (HI2.out.rot.push ho3 hg3 hm3).rot.rot
        rw [← HS.out.1, ← HS.out.2] at HI3
        clear ho3 hg3 hm3 HI2
        go_wp2
        go_roundw
        case rel => exact ⟨i + 1, RA2, ZA3, OA, rc2, zc3, oc, zl + 1, ol, by omega, by go_num, rfl, rfl, rfl, by omega, HI3⟩
        case measure => simp [intOf]; omega
      · have tb : decide ((bit : Int) = 0) = false := by simp; omega
        have tb2 : ((bit : Int) == 0) = false := by simp; omega
        have HS := Lib.hid (low_no HXx.out (m := m) (by rw [← HW.out]; omega))
        rw [HZL.out, HOL.out] at HS
        clear hb0 hb2
        go_wp2_with (at_builtin; refine wpList_push_own rfl _ _ 24 3 rfl Tryd.underlying24 Tryd.infoInt rfl (by omega) w.heap.size _ _ ol _ rfl HI2.out.rc _ rfl rfl HI2.out.below.size (by omega) ?_)
        intro OA3 oc3 w3 ho3 hg3 hm3
        have HI3 := Lib.hid (HI2.out.rot.rot.push ho3 hg3 hm3).rot
        rw [← HS.out.1, ← HS.out.2] at HI3
        clear ho3 hg3 hm3 HI2
        go_wp2
        go_roundw
        case rel => exact ⟨i + 1, RA2, ZA, OA3, rc2, zc, oc3, zl, ol + 1, by omega, by go_num, rfl, rfl, rfl, by omega, HI3⟩
        case measure => simp [intOf]; omega
    · have hin : i = n := by omega
      subst hin
      have HF := HI
      rw [List.take_of_length_le (by rw [Hl.out]; exact Nat.le_refl _)] at HF
      have HT : Hid (Tidy ZA zc ∧ Tidy OA oc) := Lib.hid ⟨own_tidy HF.out.rb, own_tidy HF.out.rc⟩
      have HLZ : Hid ((wlow m X).length = zl ∧ (whigh m X).length = ol) := Lib.hid ⟨by have := HF.out.rb.1; simpa using this, by have := HF.out.rc.1; simpa using this⟩
      have hz1 : zl ≤ 1000 := by omega
      have ho1 : ol ≤ 1000 := by omega
      have CC : Hid (∀ (W : World) (g : Nat), Below wr.heap.size wr W → W.cell? ⟨g, 0, none⟩ = some (.slice ZA zl zc) → W.cell? ⟨g, 1, none⟩ = some (.slice OA ol oc) → g < W.heap.size → Calls Tryd.prog 36 #[.slice (some ⟨g, 0, none⟩) 2 2] W fun e w' => ∃ A c, e = .returned (.slice A i c) ∧ w'.ownsRow W.heap.size 3 1 (.slice A i c) i ((wre m X).map I) ∧ Below W.heap.size W w') := Lib.hid fun W g hW k0 k1 hg => by
        have c := concat_any g zl ol zc oc ZA OA (wlow m X) (whigh m X) W k0 k1 hg ((Lies.of_own HF.out.rb).below hW) ((Lies.of_own HF.out.rc).below hW) HT.out.1 HT.out.2 HLZ.out.1 HLZ.out.2 hz1 ho1
        rw [hsum] at c
        exact c
      have HBa : Hid (Below wr.heap.size wr (wr.alloc (.cells #[.slice ZA zl zc, .slice OA ol oc] 24))) := Lib.hid ((Below.refl _ _).alloc (Nat.le_refl _) _)
      have HBx : Hid (Box (wr.alloc (.cells #[.slice ZA zl zc, .slice OA ol oc] 24)) wr.heap.size 24 #[.slice ZA zl zc, .slice OA ol oc]) := Lib.hid (Box.made _ _ _)
      clear HI
      go_wp2_with fail
      refine (CC.out _ wr.heap.size HBa.out (HBx.out.cell 0) (HBx.out.cell 1) HBx.out.lt).mono ?_
      rintro e w5 ⟨A5, c5, rfl, ho5, hb5⟩
      have HB5 := Lib.hid (below_then HBa.out hb5)
      have HO5 := Lib.hid (own_mono ho5 (Nat.le_trans HF.out.below.size HBa.out.size))
      have HR5 := Lib.hid (own_below HF.out.ra HB5.out (Nat.le_refl _))
      have HB := Lib.hid (below_then HF.out.below HB5.out)
      clear ho5 hb5
      go_wp2
      go_ret2
      exact ⟨RA, rc, A5, c5, rfl, HR5.out, HO5.out, HB.out⟩

end Go.Proofs.YtoehgcakfblblaaDoor
