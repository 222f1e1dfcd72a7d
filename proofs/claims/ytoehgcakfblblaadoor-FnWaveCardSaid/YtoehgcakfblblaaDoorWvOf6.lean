import Derived.Test.YtoehgcakfblblaaDoorWvOf3
import Derived.Test.YtoehgcakfblblaaDoorWvOf4
import Derived.Test.YtoehgcakfblblaaDoorPowW
import Derived.Test.YtoehgcakfblblaaDoorConcat1
/- WaveOf of the specification. -/
namespace Go.Proofs.YtoehgcakfblblaaDoor
open Go.RowKit
set_option maxRecDepth 100000

theorem Tryd.infoBits2 : (Tryd.prog.info? 46).map (fun i => (i.zero, i.size, i.bytes)) = some (some (.agg #[.int .i64 0, .slice none 0 0]), 2, 32) := by kernel_rfl
theorem two_newV (w : World) (x y : Value) : ∀ j u, [x, y][j]? = some u → (w.alloc (Obj.cells #[x, y] 46)).cell? ((⟨w.heap.size, 0, none⟩ : Addr).add j) = some u := by
  intro j u hu
  have hb := Box.made w 46 #[x, y]
  have e : (⟨w.heap.size, 0, none⟩ : Addr).add j = ⟨w.heap.size, j, none⟩ := by
    unfold Addr.add
    split <;> simp_all
  rw [e, hb.cell]
  simpa using hu
/-- Three empty rows. -/
theorem tri_lits (w : World) : Tri 3 w (((w.alloc (.cells #[] 3)).alloc (.cells #[] 3)).alloc (.cells #[] 3)) (.slice (some ⟨w.heap.size, 0, none⟩) 0 0) 0 [] (.slice (some ⟨w.heap.size + 1, 0, none⟩) 0 0) 0 [] (.slice (some ⟨w.heap.size + 1 + 1, 0, none⟩) 0 0) 0 [] := by
  have s1 : (w.alloc (.cells #[] 3)).heap.size = w.heap.size + 1 := World.size_alloc _ _
  have s2 : ((w.alloc (.cells #[] 3)).alloc (.cells #[] 3)).heap.size = w.heap.size + 1 + 1 := by rw [World.size_alloc, s1]
  have e0 := ((World.ownsRow_lit (base := w.heap.size) (e := 3) (size := 1) w #[] 0 (Nat.le_refl _) (by decide) rfl).alloc (.cells #[] 3)).alloc (.cells #[] 3)
  have e1 := (World.ownsRow_lit (base := w.heap.size) (e := 3) (size := 1) (w.alloc (.cells #[] 3)) #[] 0 (by omega) (by decide) rfl).alloc (.cells #[] 3)
  have e2 := World.ownsRow_lit (base := w.heap.size) (e := 3) (size := 1) ((w.alloc (.cells #[] 3)).alloc (.cells #[] 3)) #[] 0 (by omega) (by decide) rfl
  rw [s1] at e1
  rw [s2] at e2
  refine ⟨(((Below.refl _ _).alloc (Nat.le_refl _) _).alloc (by omega) _).alloc (by omega) _, e0, e1, e2, ?_, ?_, ?_⟩
  · intro k h1 h2
    injection h1 with h1
    injection h2 with h2
    simp only at h1 h2
    omega
  · intro k h1 h2
    injection h1 with h1
    injection h2 with h2
    simp only at h1 h2
    omega
  · intro k h1 h2
    injection h1 with h1
    injection h2 with h2
    simp only at h1 h2
    omega
theorem wb_quo (x : Nat) (m : Nat) : wb m (x : Int) = ((x / 2 ^ m % 2 : Nat) : Int) := by unfold wb; simp

set_option maxHeartbeats 6400000 in
theorem specWaveOf_in (A : Option Addr) (c n : Nat) (X : List Int) (w : World) (hL : Lies w I A X) (hT : Tidy A c) (hl : X.length = n) (hn : n ≤ 1000) (hX : ∀ x ∈ X, 0 ≤ x ∧ x ≤ 511) :
    Calls Tryd.prog 6 #[.slice A n c] w fun e w' => ∃ v, e = .returned (.tuple #[v, .bool true]) ∧ WvO w' w.heap.size w'.heap.size n (wzer X) (levV X) v ∧ Below w.heap.size w w' := by
  obtain ⟨i0, hi, hzz⟩ := Option.map_eq_some_iff.1 Tryd.infoBits2
  simp only [Prod.mk.injEq] at hzz
  obtain ⟨hz0, hz1, hz2⟩ := hzz
  have HInf := Lib.hid (⟨hi, hz0, hz1, hz2⟩ : _ ∧ _ ∧ _ ∧ _)
  clear hi hz0 hz1 hz2
  have HL := Lib.hid hL
  have HT := Lib.hid hT
  have HX := Lib.hid hX
  have Hl := Lib.hid hl
  have t0 : decide ((1000 : Int) < (n : Int)) = false := by simp; omega
  clear hL hX hl hT
  go_enter Tryd.func6, Tryd.ntmps6
  go_wp2
  have HB0 : Hid (Below w.heap.size w (w.alloc (.cells #[.int .i64 0, .slice none 0 0, .slice none 0 0] 28))) := Lib.hid ((Below.refl _ _).alloc (Nat.le_refl _) _)
  go_loop [4] (fun t => ∃ i : Nat, i ≤ n ∧ t = .int .i64 i) (fun t => n - (intOf t).toNat)
  case atStart => exact ⟨0, Nat.zero_le _, rfl⟩
  case round =>
    obtain ⟨i, hi, rfl⟩ := hrel
    by_cases hlt : i < n
    · obtain ⟨b, o, x, hA, hbl, hx, hc⟩ := (HL.out.below HB0.out).at_ (i := i) (by rw [Hl.out]; exact hlt)
      subst hA
      have hx01 := HX.out x (List.mem_of_getElem? hx)
      have d0 : decide (x < 0) = false := by simp; omega
      have d1 : decide ((511 : Int) < x) = false := by simp; omega
      have i0 : (0 : Int) ≤ (i : Int) := by omega
      have i1 : (i : Int) < (n : Int) := by omega
      clear hx
      go_wp2
      go_round
      case rel => exact ⟨i + 1, by omega, by go_num⟩
      case measure => simp [intOf]; omega
    · have hin : i = n := by omega
      subst hin
      have s1 : (w.alloc (.cells #[.int .i64 0, .slice none 0 0, .slice none 0 0] 28)).heap.size = w.heap.size + 1 := World.size_alloc _ _
      have HXB : Hid (Box (((w.alloc (.cells #[.int .i64 0, .slice none 0 0, .slice none 0 0] 28)).alloc (.cells #[.int .i64 i, .slice none 0 0, .slice none 0 0] 28)).alloc (.cells #[] 3)) (w.heap.size + 1) 28 #[.int .i64 i, .slice none 0 0, .slice none 0 0]) := Lib.hid (by
        have h := (Box.made (w.alloc (.cells #[.int .i64 0, .slice none 0 0, .slice none 0 0] 28)) 28 #[.int .i64 i, .slice none 0 0, .slice none 0 0]).alloc (.cells #[] 3)
        rw [s1] at h
        exact h)
      have HXR : Hid (Box (((w.alloc (.cells #[.int .i64 0, .slice none 0 0, .slice none 0 0] 28)).alloc (.cells #[.int .i64 i, .slice none 0 0, .slice none 0 0] 28)).alloc (.cells #[] 3)) w.heap.size 28 #[.int .i64 0, .slice none 0 0, .slice none 0 0]) := Lib.hid (((Box.made w 28 #[.int .i64 0, .slice none 0 0, .slice none 0 0]).alloc _).alloc _)
      have HBE : Hid (Below w.heap.size w (((w.alloc (.cells #[.int .i64 0, .slice none 0 0, .slice none 0 0] 28)).alloc (.cells #[.int .i64 i, .slice none 0 0, .slice none 0 0] 28)).alloc (.cells #[] 3))) := Lib.hid ((((Below.refl _ _).alloc (Nat.le_refl _) _).alloc (by omega) _).alloc (by rw [World.size_alloc, s1]; omega) _)
      have HOE : Hid ((((w.alloc (.cells #[.int .i64 0, .slice none 0 0, .slice none 0 0] 28)).alloc (.cells #[.int .i64 i, .slice none 0 0, .slice none 0 0] 28)).alloc (.cells #[] 3)).ownsRow w.heap.size 3 1 (.slice (some ⟨w.heap.size + 1 + 1, 0, none⟩) 0 0) 0 []) := Lib.hid (by
        have h := World.ownsRow_lit (base := w.heap.size) (e := 3) (size := 1) ((w.alloc (.cells #[.int .i64 0, .slice none 0 0, .slice none 0 0] 28)).alloc (.cells #[.int .i64 i, .slice none 0 0, .slice none 0 0] 28)) #[] 0 (by rw [World.size_alloc, s1]; omega) (by decide) rfl
        rw [World.size_alloc, s1] at h
        exact h)
      clear s1
      go_wp2_with (at_builtin; refine wpList_append_ints _ rfl _ _ rfl w.heap.size _ [] rfl HOE.out A c X (by rw [Hl.out]; rfl) (HL.out.below HBE.out) HT.out X rfl (by rw [Hl.out]; simp; omega) HBE.out.size ?_)
      intro A6 c6 w6 ho6 hg6
      rw [Hl.out] at ho6
      rw [Hl.out]
      have HO6 : Hid (w6.ownsRow w.heap.size 3 1 (.slice A6 i c6) i ((wX X 0).map I)) := Lib.hid ho6
      have HS6 : Hid (SoI w w6 i X (w.heap.size + 1) 0 0 (.slice none 0 0) (.slice none 0 0) 0) := Lib.hid ⟨grown_past HBE.out hg6 (fun k e => by injection e with e; simp only at e; omega) HBE.out.size, Nat.lt_succ_self _, HXR.out.grown hg6 (fun e => by injection e with e; simp only at e; omega), HXB.out.grown hg6 (fun e => by injection e with e; simp only at e; omega), World.ownsRow_nil _ _ _ _, ⟨[], LvL.nil _ _, rfl, fun j p h => by simp at h⟩⟩
      clear ho6 hg6 HOE HBE HXR HXB HB0
      generalize w.heap.size + 1 = gb at *
      go_wp2
      go_loopw [6, 7] (fun l t wr => ∃ (k : Nat) (A : Option Addr) (c : Nat) (ZA : Option Addr) (zc : Nat) (LA : Option Addr) (lc : Nat), k ≤ 9 ∧ t = .int .i64 k ∧ l = .slice A i c ∧ Hid (SoI w wr i X gb k k (.slice ZA k zc) (.slice LA k lc) wr.heap.size) ∧ Hid (wr.ownsRow w.heap.size 3 1 (.slice A i c) i ((wX X k).map I))) (fun _ t _ => 9 - (intOf t).toNat)
      case atStart => exact ⟨0, _, _, _, _, _, _, Nat.zero_le _, rfl, rfl, Lib.hid (HS6.out.lift (Nat.zero_le _)), HO6⟩
      case round =>
        obtain ⟨k, A, c, ZA, zc, LA, lc, hk, rfl, rfl, HS, HC⟩ := hrel
        clear HS6 HO6
        obtain ⟨w1, hw1⟩ : ∃ w1, w1 = wr := ⟨_, rfl⟩
        subst hw1
        by_cases hlt : k < 9
        · obtain ⟨m, hm⟩ : ∃ m, 8 - k = m := ⟨_, rfl⟩
          have HI0 : Hid (Tri 3 w1 (((w1.alloc (.cells #[] 3)).alloc (.cells #[] 3)).alloc (.cells #[] 3)) (.slice (some ⟨w1.heap.size, 0, none⟩) 0 0) 0 (((wX X k).take 0).map (wb m)) (.slice (some ⟨w1.heap.size + 1, 0, none⟩) 0 0) 0 (wlow m ((wX X k).take 0)) (.slice (some ⟨w1.heap.size + 1 + 1, 0, none⟩) 0 0) 0 (whigh m ((wX X k).take 0))) := Lib.hid (tri_lits w1)
          have k1 : (k : Int) < 9 := by omega
          have k0 : (0 : Int) ≤ (k : Int) := by omega
          have CP := Lib.hid fun (W : World) => powW_any m W (by omega)
          have e1 : IntKind.i64.wrap (8 - (k : Int)) = (m : Int) := by rw [IntWalk.i64_in _ (by omega)]; omega
          have e2 : 8 - (k : Int) = (m : Int) := by omega
          have e3 : IntKind.i64.wrap (m : Int) = (m : Int) := IntWalk.i64_in _ (by omega)
          have HYl : Hid ((wX X k).length = i) := Lib.hid (by rw [wX_len, Hl.out])
          have HYx : Hid (∀ x ∈ wX X k, 0 ≤ x ∧ x ≤ 511) := Lib.hid fun x hx => HX.out x (wX_mem hx)
          have hp2 : 2 ^ m ≤ 256 := Nat.le_trans (Nat.pow_le_pow_right (by omega) (show m ≤ 8 by omega)) (by decide)
          have hp1 : 0 < 2 ^ m := Nat.two_pow_pos _
          obtain ⟨p, hp⟩ : ∃ p, 2 ^ m = p := ⟨_, rfl⟩
          rw [hp] at CP hp1 hp2
          have Hp := Lib.hid hp
          have Hm := Lib.hid hm
          obtain ⟨Y, hY⟩ : ∃ Y, wX X k = Y := ⟨_, rfl⟩
          rw [hY] at HI0 HYl HYx HC
          have HY := Lib.hid hY
          clear hp hm hY
          go_wp2
          go_loopw [8, 9, 10, 11] (fun r z o t wq => ∃ (j : Nat) (RA ZA OA : Option Addr) (rc zc oc zl ol : Nat), j ≤ i ∧ t = .int .i64 j ∧ r = .slice RA j rc ∧ z = .slice ZA zl zc ∧ o = .slice OA ol oc ∧ zl + ol = j ∧ Hid (Tri 3 w1 wq (.slice RA j rc) j ((Y.take j).map (wb m)) (.slice ZA zl zc) zl (wlow m (Y.take j)) (.slice OA ol oc) ol (whigh m (Y.take j)))) (fun _ _ _ t _ => i - (intOf t).toNat)
          case atStart => exact ⟨0, _, _, _, _, _, _, 0, 0, Nat.zero_le _, rfl, rfl, rfl, rfl, rfl, HI0⟩
          case round =>
            obtain ⟨j, RA, ZB, OA, rc, zc2, oc, zl, ol, hj, rfl, rfl, rfl, rfl, hsum, HI⟩ := hrel
            clear HI0
            by_cases hlt2 : j < i
            · obtain ⟨b, o, x, hA, hbl, hx, hc⟩ := (Lies.of_own HC.out).at_ (i := j) (by rw [HYl.out]; exact hlt2)
              subst hA
              have hx01 := HYx.out x (List.mem_of_getElem? hx)
              obtain ⟨y, rfl⟩ := Int.eq_ofNat_of_zero_le hx01.1
              have HXx := Lib.hid hx
              have HM := Lib.hid (wbits_more (m := m) hx)
              rw [wb_quo, Hp.out] at HM
              have hb2 : y / p % 2 < 2 := Nat.mod_lt _ (by omega)
              obtain ⟨q, hq⟩ : ∃ q, y / p = q := ⟨_, rfl⟩
              have hqle : q ≤ 511 := by rw [← hq]; exact Nat.le_trans (Nat.div_le_self _ _) (by omega)
              have f1 : (y : Int).tdiv (p : Int) = (q : Int) := by rw [Int.tdiv_eq_ediv_of_nonneg (by omega), ← hq]; simp
              have f2 : IntKind.i64.wrap (q : Int) = (q : Int) := IntWalk.i64_in _ (by omega)
              rw [hq] at HM hb2
              obtain ⟨bit, hbit⟩ : ∃ bit, q % 2 = bit := ⟨_, rfl⟩
              rw [hbit] at HM hb2
              have f3 : (q : Int).tmod 2 = (bit : Int) := by rw [Int.tmod_eq_emod_of_nonneg (by omega), ← hbit]; simp
              have f4 : IntKind.i64.wrap (bit : Int) = (bit : Int) := IntWalk.i64_in _ (by omega)
              have f5 : ((p : Int) == 0) = false := by simp; omega
              have f6 : ¬ (p : Int) = 0 := by omega
              have f6n : ¬ p = 0 := by omega
              have HW : Hid (wb m (y : Int) = (bit : Int)) := Lib.hid (by rw [wb_quo, Hp.out, hq, hbit])
              have i0 : (0 : Int) ≤ (j : Int) := by omega
              have i1 : (j : Int) < (i : Int) := by omega
              obtain ⟨RL, hRL⟩ : ∃ RL, (Y.take j).map (wb m) = RL := ⟨_, rfl⟩
              obtain ⟨ZL, hZL⟩ : ∃ ZL, wlow m (Y.take j) = ZL := ⟨_, rfl⟩
              obtain ⟨OL, hOL⟩ : ∃ OL, whigh m (Y.take j) = OL := ⟨_, rfl⟩
              rw [hRL, hZL, hOL] at HI
              rw [hRL] at HM
              have HZL := Lib.hid hZL
              have HOL := Lib.hid hOL
              clear hx hbit hq hRL hZL hOL
              have HCell : Hid (∀ W, Below w1.heap.size w1 W → W.cell? ⟨b, o + j, none⟩ = some (I (y : Int))) := Lib.hid fun W hW => (hW.cell (p := ⟨b, o + j, none⟩) hbl).trans hc
              clear hc hbl
              have hcd := HCell.out _ HI.out.below.drew
              go_wp2_with fail
              go_region_held3 (fun w' => w'.cell? ⟨b, o + j, none⟩ = some (I (y : Int))) (first | (go_keep; done) | assumption) (first | (go_at_call 21; (with_reducible refine Calls.mono (CP.out _) ?_); rintro e w8 ⟨rfl, rfl⟩))
              have HId := Lib.hid (HI.out.more ((Below.refl wr.heap.size wr).drew))
              clear HI hcd f1 f2 f3 f4 f5 f6 f6n
              generalize wr.drew = wd at *
              go_wp2_with (at_builtin; refine wpList_push_own rfl _ _ 24 3 rfl Tryd.underlying24 Tryd.infoInt rfl (by omega) w1.heap.size _ _ j _ rfl HId.out.ra _ rfl rfl HId.out.below.size (by omega) ?_)
              intro RA2 rc2 w2 ho2 hg2 hm2
              have HI2 := Lib.hid (HId.out.push ho2 hg2 hm2)
              rw [← HM.out] at HI2
              have hc2 := HCell.out _ HI2.out.below
              clear ho2 hg2 hm2 HId HCell
              by_cases hb0 : bit = 0
              · have tb : decide ((bit : Int) = 0) = true := by simp; omega
                have tb2 : ((bit : Int) == 0) = true := by simp; omega
                have HSl := Lib.hid (low_yes HXx.out (m := m) (by rw [HW.out]; omega))
                rw [HZL.out, HOL.out] at HSl
                clear hb0 hb2
                go_wp2_with (at_builtin; refine wpList_push_own rfl _ _ 24 3 rfl Tryd.underlying24 Tryd.infoInt rfl (by omega) w1.heap.size _ _ zl _ rfl HI2.out.rb _ rfl rfl HI2.out.below.size (by omega) ?_)
                intro ZA3 zc3 w3 ho3 hg3 hm3
                have HI3 := Lib.hid (HI2.out.rot.push ho3 hg3 hm3).rot.rot
                rw [← HSl.out.1, ← HSl.out.2] at HI3
                clear ho3 hg3 hm3 HI2 hc2
                go_wp2
                go_roundw
                case rel => exact ⟨j + 1, RA2, ZA3, OA, rc2, zc3, oc, zl + 1, ol, by omega, by go_num, rfl, rfl, rfl, by omega, HI3⟩
                case measure => simp [intOf]; omega
              · have tb : decide ((bit : Int) = 0) = false := by simp; omega
                have tb2 : ((bit : Int) == 0) = false := by simp; omega
                have HSl := Lib.hid (low_no HXx.out (m := m) (by rw [HW.out]; omega))
                rw [HZL.out, HOL.out] at HSl
                clear hb0 hb2
                go_wp2_with (at_builtin; refine wpList_push_own rfl _ _ 24 3 rfl Tryd.underlying24 Tryd.infoInt rfl (by omega) w1.heap.size _ _ ol _ rfl HI2.out.rc _ rfl rfl HI2.out.below.size (by omega) ?_)
                intro OA3 oc3 w3 ho3 hg3 hm3
                have HI3 := Lib.hid (HI2.out.rot.rot.push ho3 hg3 hm3).rot
                rw [← HSl.out.1, ← HSl.out.2] at HI3
                clear ho3 hg3 hm3 HI2 hc2
                go_wp2
                go_roundw
                case rel => exact ⟨j + 1, RA2, ZB, OA3, rc2, zc2, oc3, zl, ol + 1, by omega, by go_num, rfl, rfl, rfl, by omega, HI3⟩
                case measure => simp [intOf]; omega
            · have hij : i = j := by omega
              subst hij
              have HF : Hid (Tri 3 w1 wr (.slice RA i rc) i (wrow X k) (.slice ZB zl zc2) zl (wlow m Y) (.slice OA ol oc) ol (whigh m Y)) := Lib.hid (by
                have h := HI.out
                rw [List.take_of_length_le (by rw [HYl.out]; exact Nat.le_refl _)] at h
                rw [show wrow X k = Y.map (wb m) by unfold wrow; rw [HY.out, Hm.out]]
                exact h)
              have CB : Hid (Calls Tryd.prog 22 #[.slice RA i rc] wr (NewBits wr (i : Int) (wordsOf (wrow X k)) true)) := Lib.hid (by
                have hrl : (wrow X k).length = i := by rw [wrow_len, Hl.out]
                have c := specOf_any RA rc (wrow X k) wr (Lies.of_own HF.out.ra) (by omega)
                rw [hrl] at c
                exact c.mono fun _ _ h => newBits_ok (wrow_bits X k) hrl (by omega) h)
              clear HI
              go_wp2_with fail
              refine CB.out.mono ?_
              rintro e w2 ⟨Ab, cb, rfl, hoW, hb2⟩
              have hb3 : Below w2.heap.size w2 (w2.alloc (.cells #[.int .i64 (i : Int), .slice Ab (wordsOf (wrow X k)).length cb] 46)) := (Below.refl _ _).alloc (Nat.le_refl _) _
              have hb4 : Below w2.heap.size w2 ((w2.alloc (.cells #[.int .i64 (i : Int), .slice Ab (wordsOf (wrow X k)).length cb] 46)).alloc (.cells #[.int .i64 (i : Int), .slice Ab (wordsOf (wrow X k)).length cb] 46)) := hb3.alloc hb3.size _
              have s3 : ((w2.alloc (.cells #[.int .i64 (i : Int), .slice Ab (wordsOf (wrow X k)).length cb] 46))).heap.size = w2.heap.size + 1 := World.size_alloc _ _
              have HS3 := Lib.hid (HS.out.more (below_then HF.out.below (below_then hb2 hb3)))
              have HS4 := Lib.hid (HS.out.more (below_then HF.out.below (below_then hb2 hb4)))
              have HZ4 := Lib.hid (own_below HF.out.rb (below_then hb2 hb4) (Nat.le_refl _))
              have HO4 := Lib.hid (own_below HF.out.rc (below_then hb2 hb4) (Nat.le_refl _))
              have HD4 := Lib.hid (own_below hoW hb4 (Nat.le_refl _))
              have H14 := Lib.hid (below_then HF.out.below (below_then hb2 hb4)).size
              have HSz : Hid (w.heap.size ≤ w1.heap.size ∧ w1.heap.size ≤ wr.heap.size) := Lib.hid ⟨HS.out.below.size, HF.out.below.size⟩
              have HZv : Hid (∀ j, (Value.slice ZA k zc).ownBlock = some j → j < w1.heap.size) := Lib.hid fun j e => (own_typed HS.out.zer e).2.1
              have HLz : Hid ((wlow m Y).length = zl ∧ (whigh m Y).length = ol) := Lib.hid ⟨by have := HF.out.rb.1; simpa using this, by have := HF.out.rc.1; simpa using this⟩
              have Hzl : Hid ((wlow (8 - k) (wX X k)).length = zl) := Lib.hid (by rw [HY.out, Hm.out]; exact HLz.out.1)
              obtain ⟨E, hE⟩ : ∃ E, wX X (k + 1) = E := ⟨_, rfl⟩
              have HE : Hid (wlow m Y ++ whigh m Y = E) := Lib.hid (by rw [← hE, ← HY.out, ← Hm.out]; rfl)
              have HEl : Hid (E.length = i) := Lib.hid (by rw [← hE, wX_len, Hl.out])
              have HEq := Lib.hid hE
              have hbx := Box.made w2 46 #[.int .i64 (i : Int), .slice Ab (wordsOf (wrow X k)).length cb]
              have y0 := hbx.cell 0
              have y1 := hbx.cell 1
              have x2 := HS3.out.box.cell 2
              have xl := HS3.out.box.lt
              have HNw := Lib.hid (two_newV (w2.alloc (.cells #[.int .i64 (i : Int), .slice Ab (wordsOf (wrow X k)).length cb] 46)) (.int .i64 (i : Int)) (.slice Ab (wordsOf (wrow X k)).length cb))
              rw [s3] at HNw
              obtain ⟨Q, hQL, hQm, hQo⟩ := HS4.out.lev
              have hQl : Q.length = k := by
                have := congrArg List.length hQm
                rw [List.length_map, List.length_map, List.length_take, wlev_len] at this
                omega
              have HQ := Lib.hid (⟨hQL, hQm, hQo, hQl⟩ : _ ∧ _ ∧ _ ∧ _)
              have hQ9 : Q.length ≤ 9 := by omega
              clear hb2 hb3 hb4 hoW CB HF HS HS3 hE hbx hQL hQm hQo hQl s3 HC
              go_wp2_with (at_builtin; refine wpList_append_own _ rfl _ _ 26 rfl w.heap.size 46 i0 (.agg #[.int .i64 0, .slice none 0 0]) 2 32 Tryd.underlying26 HInf.out.1 HInf.out.2.1 HInf.out.2.2.1 HInf.out.2.2.2 rfl (by decide) _ _ _ rfl HQ.out.1.row ⟨w2.heap.size + 1, 0, none⟩ 1 1 [.int .i64 (i : Int), .slice Ab (wordsOf (wrow X k)).length cb] rfl rfl HNw.out (by intro u hu; simp at hu; rcases hu with rfl | rfl <;> rfl) (by unfold maxLen; omega) (by omega) HS4.out.below.size ?_)
              intro v' w5 hrow hg _
              obtain ⟨LA2, lc2, rfl⟩ := own_slice hrow
              have HA := HS4.out.addLev HQ.out.1 HQ.out.2.1 HQ.out.2.2.1 hlt HD4.out (Nat.le_trans HSz.out.1 HSz.out.2) HSz.out.2 hrow hg
              rw [HQ.out.2.2.2] at HA ⊢
              obtain ⟨hS5, ⟨fz5, cl5, cz5, gl5⟩, keep5⟩ := HA
              have HS5 := Lib.hid hS5
              have H15 := Lib.hid (Nat.le_trans H14.out hg.size)
              obtain ⟨ZT, hZT⟩ : ∃ ZT, ((wzer X).take k).map I = ZT := ⟨_, rfl⟩
              have HZr := Lib.hid hS5.zer
              rw [hZT] at HZr
              have HZT := Lib.hid hZT
              have HZ5 := Lib.hid (keep5 _ _ _ _ HZ4.out)
              have HO5 := Lib.hid (keep5 _ _ _ _ HO4.out)
              clear hZT hS5 keep5 hrow hg HQ hQ9 HS4 HZ4 HO4 HD4 HNw y0 y1 x2 xl
              go_wp2_with (at_builtin; refine wpList_push_own rfl _ _ 24 3 rfl Tryd.underlying24 Tryd.infoInt rfl (by omega) w.heap.size _ _ k _ rfl HZr.out _ rfl (by simp only [World.size_setCell]; rfl) HS5.out.below.size (by omega) ?_)
              intro ZA2 zc3 w7 ho7 hg7 hm7
              have HA := HS5.out.addZer hlt (by rw [Hzl.out, HZT.out]; exact ho7) hg7
              obtain ⟨hS7, ⟨fz7, cl7, gl7⟩, keep7⟩ := HA
              have HS7 := Lib.hid hS7
              have H57 : Hid (w5.heap.size ≤ w7.heap.size) := Lib.hid (by have := hg7.size; rwa [World.size_setCell] at this)
              have HZ7 := Lib.hid (keep7 _ _ _ _ HZv.out HZ5.out)
              have HO7 := Lib.hid (keep7 _ _ _ _ HZv.out HO5.out)
              have HNe : Hid (∀ j, (Value.slice ZA2 (k + 1) zc3).ownBlock = some j → (Value.slice ZB zl zc2).ownBlock ≠ some j) := Lib.hid fun j e1 e2 => by
                have hz := own_typed HZ5.out e2
                rcases hm7 with h | ⟨k', h, h'⟩
                · have := HZv.out j (h.symm.trans e1)
                  have := hz.1
                  omega
                · have e := Option.some.inj (h.symm.trans e1)
                  have := hz.2.1
                  omega
              clear hS7 keep7 ho7 hg7 hm7 fz5 cl5 cz5 gl5 HZ5 HO5
              have H17 : Hid (w1.heap.size ≤ (w7.setCell ⟨gb, 1, none⟩ (.slice ZA2 (k + 1) zc3)).heap.size ∧ w5.heap.size ≤ (w7.setCell ⟨gb, 1, none⟩ (.slice ZA2 (k + 1) zc3)).heap.size) := Lib.hid (by rw [World.size_setCell]; exact ⟨Nat.le_trans H15.out H57.out, H57.out⟩)
              have HTz : Hid (Tidy OA oc) := Lib.hid (own_tidy HO7.out)
              clear HS5
              go_wp2_with (at_builtin; refine wpList_append_ints _ rfl _ _ rfl w1.heap.size _ (wlow m Y) rfl (by rw [HLz.out.1]; exact HZ7.out) OA oc (whigh m Y) (by rw [HLz.out.2]; rfl) (Lies.of_own HO7.out) HTz.out E HE.out (by rw [HLz.out.1, HLz.out.2]; omega) H17.out.1 ?_)
              intro A8 c8 w8 ho8 hg8
              rw [HEl.out] at ho8
              rw [HEl.out]
              have HS8 := Lib.hid ((HS7.out.beside HZ7.out HSz.out.1 hg8 HNe.out).lift (Nat.le_trans H17.out.2 hg8.size))
              have HC8 : Hid (w8.ownsRow w.heap.size 3 1 (.slice A8 i c8) i ((wX X (k + 1)).map I)) := Lib.hid (by rw [HEq.out]; exact own_mono ho8 HSz.out.1)
              clear ho8 hg8 HS7 HZ7 HO7 HNe fz7 cl7 gl7 HTz
              go_wp2
              go_roundw
              case rel => exact ⟨k + 1, A8, c8, ZA2, zc3, LA2, lc2, by omega, by go_num, rfl, HS8, HC8⟩
              case measure => simp [intOf]; omega
        · obtain ⟨K, hK⟩ : ∃ K, K = k := ⟨_, rfl⟩
          subst hK
          have hK9 : K = 9 := by omega
          have HW : Hid (SoI w w1 i X gb 9 9 (.slice ZA K zc) (.slice LA K lc) w1.heap.size) := Lib.hid (by
            have gen : ∀ q, q = 9 → SoI w w1 i X gb q q (.slice ZA K zc) (.slice LA K lc) w1.heap.size → SoI w w1 i X gb 9 9 (.slice ZA K zc) (.slice LA K lc) w1.heap.size := by rintro _ rfl h; exact h
            exact gen K hK9 HS.out)
          have hx := HW.out.box
          have hr := HW.out.res
          have x0 := hx.cell 0
          have x1 := hx.cell 1
          have x2 := hx.cell 2
          have xl := hx.lt
          have r0 := hr.cell 0
          have r1 := hr.cell 1
          have r2 := hr.cell 2
          have f0 := hr.frozen 0
          have f1 := hr.frozen 1
          have f2 := hr.frozen 2
          have rl := hr.lt
          have hlt0 : ¬ ((K : Int) < 9) := by omega
          clear hK9 HS HC hx hr
          go_wp2
          refine bodyPost_ret (v := .tuple #[.agg #[.int .i64 i, .slice ZA K zc, .slice LA K lc], .bool true]) (by simp [results, Tryd.results6, go_sem, r0, r1, r2]) rfl ?_
          exact ⟨_, rfl, HW.out.wave Hl.out⟩

end Go.Proofs.YtoehgcakfblblaaDoor

/- WaveOf of the specification for lists that have no wave. -/
namespace Go.Proofs.YtoehgcakfblblaaDoor
open Go.RowKit
set_option maxRecDepth 100000

set_option maxHeartbeats 800000 in
theorem specWaveOf_long (A : Option Addr) (c n : Nat) (w : World) (hn : 1000 < n) (hn2 : n ≤ 9223372036854775807) :
    Calls Tryd.prog 6 #[.slice A n c] w fun e w' => e = .returned (.tuple #[.agg #[.int .i64 0, .slice none 0 0, .slice none 0 0], .bool false]) ∧ Below w.heap.size w w' := by
  have t0 : decide ((1000 : Int) < (n : Int)) = true := by simp; omega
  have hr := Box.made w 28 #[.int .i64 0, .slice none 0 0, .slice none 0 0]
  have r0 := hr.cell 0
  have r1 := hr.cell 1
  have r2 := hr.cell 2
  have f0 := hr.frozen 0
  have f1 := hr.frozen 1
  have f2 := hr.frozen 2
  have rl := hr.lt
  have HB : Hid (Below w.heap.size w (w.alloc (.cells #[.int .i64 0, .slice none 0 0, .slice none 0 0] 28))) := Lib.hid ((Below.refl _ _).alloc (Nat.le_refl _) _)
  clear hr
  go_enter Tryd.func6, Tryd.ntmps6
  go_wp2
  refine bodyPost_ret (v := .tuple #[.agg #[.int .i64 0, .slice none 0 0, .slice none 0 0], .bool false]) (by simp [results, Tryd.results6, go_sem, r0, r1, r2]) rfl ?_
  exact ⟨rfl, HB.out⟩

set_option maxHeartbeats 1600000 in
theorem specWaveOf_no (A : Option Addr) (c n : Nat) (X : List Int) (w : World) (hL : Lies w I A X) (hl : X.length = n) (hn : n ≤ 1000) (hno : ¬ ∀ x ∈ X, 0 ≤ x ∧ x ≤ 511) :
    Calls Tryd.prog 6 #[.slice A n c] w fun e w' => e = .returned (.tuple #[.agg #[.int .i64 0, .slice none 0 0, .slice none 0 0], .bool false]) ∧ Below w.heap.size w w' := by
  have HL := Lib.hid hL
  have Hl := Lib.hid hl
  have HN := Lib.hid hno
  have t0 : decide ((1000 : Int) < (n : Int)) = false := by simp; omega
  have hr := Box.made w 28 #[.int .i64 0, .slice none 0 0, .slice none 0 0]
  have r0 := hr.cell 0
  have r1 := hr.cell 1
  have r2 := hr.cell 2
  have f0 := hr.frozen 0
  have f1 := hr.frozen 1
  have f2 := hr.frozen 2
  have rl := hr.lt
  have HB : Hid (Below w.heap.size w (w.alloc (.cells #[.int .i64 0, .slice none 0 0, .slice none 0 0] 28))) := Lib.hid ((Below.refl _ _).alloc (Nat.le_refl _) _)
  clear hr hL hl hno
  go_enter Tryd.func6, Tryd.ntmps6
  go_wp2
  go_loop [4] (fun t => ∃ i : Nat, i ≤ n ∧ t = .int .i64 i ∧ Hid (∀ y ∈ X.take i, 0 ≤ y ∧ y ≤ 511)) (fun t => n - (intOf t).toNat)
  case atStart => exact ⟨0, Nat.zero_le _, rfl, Lib.hid fun y hy => by simp at hy⟩
  case round =>
    obtain ⟨i, hi, rfl, HG⟩ := hrel
    by_cases hlt : i < n
    · obtain ⟨b, o, x, hA, hbl, hx, hc⟩ := (HL.out.below HB.out).at_ (i := i) (by rw [Hl.out]; exact hlt)
      subst hA
      have i0 : (0 : Int) ≤ (i : Int) := by omega
      have i1 : (i : Int) < (n : Int) := by omega
      have HX := Lib.hid hx
      clear hx
      by_cases h0 : x < 0
      · have d0 : decide (x < 0) = true := by simpa using h0
        clear h0 HG
        go_wp2
        refine bodyPost_ret (v := .tuple #[.agg #[.int .i64 0, .slice none 0 0, .slice none 0 0], .bool false]) (by simp [results, Tryd.results6, go_sem, r0, r1, r2]) rfl ?_
        exact ⟨rfl, HB.out⟩
      · have d0 : decide (x < 0) = false := by simpa using h0
        by_cases h1 : 511 < x
        · have d1 : decide ((511 : Int) < x) = true := by simpa using h1
          clear h0 h1 HG
          go_wp2
          refine bodyPost_ret (v := .tuple #[.agg #[.int .i64 0, .slice none 0 0, .slice none 0 0], .bool false]) (by simp [results, Tryd.results6, go_sem, r0, r1, r2]) rfl ?_
          exact ⟨rfl, HB.out⟩
        · have d1 : decide ((511 : Int) < x) = false := by simpa using h1
          have HG2 : Hid (∀ y ∈ X.take (i + 1), 0 ≤ y ∧ y ≤ 511) := Lib.hid fun y hy => by
            rw [List.take_add_one, HX.out, Option.toList_some] at hy
            rcases List.mem_append.1 hy with h | h
            · exact HG.out y h
            · obtain rfl : y = x := by simpa using h
              omega
          clear h0 h1 HG
          go_wp2
          go_round
          case rel => exact ⟨i + 1, by omega, by go_num, HG2⟩
          case measure => simp [intOf]; omega
    · exfalso
      refine HN.out fun y hy => HG.out y ?_
      rw [List.take_of_length_le (by rw [Hl.out]; omega)]
      exact hy

theorem specWaveOf_any (A : Option Addr) (c : Nat) (X : List Int) (w : World) (hL : Lies w I A X) (hT : Tidy A c) (hn : X.length ≤ 9223372036854775807) :
    Calls Tryd.prog 6 #[.slice A X.length c] w (WaveOfPost X w) := by
  by_cases h1 : X.length ≤ 1000
  · by_cases h2 : ∀ x ∈ X, 0 ≤ x ∧ x ≤ 511
    · exact (specWaveOf_in A c X.length X w hL hT rfl h1 h2).mono fun e w' h => .inl ⟨(okW_iff X).2 ⟨h1, h2⟩, h⟩
    · refine (specWaveOf_no A c X.length X w hL rfl h1 h2).mono fun e w' h => .inr ⟨?_, h⟩
      cases h3 : okW X
      · rfl
      · exact absurd ((okW_iff X).1 h3).2 h2
  · refine (specWaveOf_long A c X.length w (by omega) hn).mono fun e w' h => .inr ⟨?_, h⟩
    cases h3 : okW X
    · rfl
    · exact absurd ((okW_iff X).1 h3).1 h1

end Go.Proofs.YtoehgcakfblblaaDoor
