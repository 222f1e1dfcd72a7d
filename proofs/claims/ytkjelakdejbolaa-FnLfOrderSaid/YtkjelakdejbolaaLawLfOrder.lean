/- The law FnLfOrder walked. -/
import Derived.Test.YtkjelakdejbolaaSyD
import Derived.Test.YtkjelakdejbolaaSy9
import Derived.Test.YtkjelakdejbolaaSy1
import Derived.Test.YtkjelakdejbolaaCntL
import Derived.Test.YtkjelakdejbolaaScene4
import Derived.Test.YtkjelakdejbolaaSf2
namespace Go.Proofs.Ytkjelakdejbolaa
open Go.RowKit
set_option maxRecDepth 100000

set_option maxHeartbeats 400000 in
theorem lawLfOrder_big (A : Option Addr) (n c : Nat) (w : World) (h : 1048576 < n) :
    Calls Try.prog 5 #[.slice A n c] w fun e w' => e = .returned (.bool true) ∧ Below w.heap.size w w' := by
  have C := Lib.hid (big_any A n c w)
  rw [decide_eq_true h] at C
  go_enter Try.func5, Try.ntmps5
  go_wp2_with fail
  refine C.out.mono ?_
  rintro e w1 ⟨rfl, rfl⟩
  go_wp2
  go_ret
  exact ⟨rfl, Below.refl _ _⟩

set_option maxHeartbeats 8000000 in
theorem lawLfOrder (A : Option Addr) (c : Nat) (D : List Nat) (w : World) (hD : Lies w B8 A D) (hw : ∀ x ∈ D, x < 2 ^ 8) (hl : D.length ≤ 1048576) :
    Calls Try.prog 5 #[.slice A D.length c] w fun e w' => e = .returned (.bool true) ∧ Below w.heap.size w w' := by
  have C := Lib.hid (big_any A D.length c w)
  rw [decide_eq_false (by omega)] at C
  have HD := Lib.hid hD
  have HW := Lib.hid hw
  clear hD hw
  go_enter Try.func5, Try.ntmps5
  go_wp2_with fail
  refine C.out.mono ?_
  rintro e w0 ⟨rfl, rfl⟩
  go_wp2_with fail
  refine (drawLf_any A c D w HD.out HW.out hl).mono ?_
  rintro e w1 ⟨Ab, cb, L, rfl, hL, ho, hb⟩
  have sc := (Scene.start w).row hb ho
  clear ho hb C
  go_wp2_with fail
  refine (implLf_any Ab cb L w1 (sc.lies 0 rfl)).mono ?_
  rintro e w2 ⟨Al, cl, rfl, ho, hb⟩
  replace sc := sc.row hb ho
  clear ho hb
  go_wp2_with fail
  refine (implCounts_any Ab cb L w2 (sc.lies 1 rfl)).mono ?_
  rintro e w3 ⟨Ac, cc, rfl, ho, hb⟩
  replace sc := sc.row hb ho
  clear ho hb
  go_wp2_with fail
  refine (specSymsOk_any Ab cb L w3 (sc.lies 2 rfl)).mono ?_
  rintro e w4 ⟨rfl, rfl⟩
  have HB := Lib.hid sc.below
  by_cases hs : symOk L = true
  · rw [hs]
    obtain ⟨n, hn⟩ : ∃ n, L.length = n := ⟨_, rfl⟩
    have Hn := Lib.hid hn
    have HOk := Lib.hid hs
    have hn3 : n ≤ 301 := by rw [← hn]; exact symOk_len hs
    have HBb : Hid (Lies w4 I Ab L) := Lib.hid (sc.lies 2 rfl)
    have HLl : Hid (Lies w4 I Al (lfV L)) := Lib.hid (sc.lies 1 rfl)
    have HCc : Hid (Lies w4 I Ac (countsV L)) := Lib.hid (sc.lies 0 rfl)
    have HLv : Hid (lfV L = (List.range n).map fun k : Nat => (lfAt L k : Int)) := Lib.hid (by unfold lfV; rw [if_pos hs, hn])
    have HCv : Hid (countsV L = (List.range 258).map fun c : Nat => (ltN L (c : Int) : Int)) := Lib.hid (by unfold countsV; rw [if_pos hs])
    have hll : (lfV L).length = n := by rw [HLv.out, List.length_map, List.length_range]
    have hcl : (countsV L).length = 258 := by rw [HCv.out, List.length_map, List.length_range]
    have HCn := Lib.hid fun (x : Int) (W : World) (h : Lies W I Al (lfV L)) => count_any Al n cl (lfV L) x W h (Lib.hid hll) (by omega)
    have HCat : Hid (∀ s, s < 258 → ∃ b o, Ac = some ⟨b, o, none⟩ ∧ b < w4.heap.size ∧ w4.cell? ⟨b, o + s, none⟩ = some (I (ltN L (s : Int) : Int))) := Lib.hid fun s hs => HCc.out s _ (by rw [HCv.out, List.getElem?_map, List.getElem?_range hs]; rfl)
    have HLat : Hid (∀ k, k < n → ∃ b o, Al = some ⟨b, o, none⟩ ∧ b < w4.heap.size ∧ w4.cell? ⟨b, o + k, none⟩ = some (I (lfAt L k : Int))) := Lib.hid fun k hk => HLl.out k _ (by rw [HLv.out, List.getElem?_map, List.getElem?_range hk]; rfl)
    obtain ⟨bc, oc, hAc, hbc, hc257⟩ := HCat.out 257 (by omega)
    have hall : ltN L ((257 : Nat) : Int) = n := by
      rw [← hn]
      refine ltN_all fun x hx => ?_
      have := (((symOk_iff L).1 hs).2 x hx).2
      omega
    rw [hall] at hc257
    subst hAc
    have hnn : ((n : Int) != (n : Int)) = false := by simp
    have hnnN : (n != n) = false := by simp
    rw [hll, hcl, hn]
    clear hall hs hll hcl hn hL sc HCc
    go_wp2
    go_loopw [6] (fun i wr => ∃ k : Nat, k ≤ n ∧ i = .int .i64 k ∧ Hid (Drawn w4 wr)) (fun i _ => n - (intOf i).toNat)
    case atStart => exact ⟨0, Nat.zero_le _, rfl, Lib.hid (Drawn.refl _)⟩
    case round =>
      obtain ⟨k, hk, rfl, HDr⟩ := hrel
      generalize wr = W0 at *
      have HBr : Hid (Below w4.heap.size w4 W0) := Lib.hid (HDr.out.below _)
      by_cases hlt : k < n
      · obtain ⟨bb, ob, x, hAb, hbb, hx, hcb0⟩ := HBb.out.at_ (i := k) (by rw [Hn.out]; exact hlt)
        subst hAb
        have hx0 := symOk_at HOk.out hx
        obtain ⟨s, rfl⟩ := Int.eq_ofNat_of_zero_le hx0.1
        obtain ⟨s1, hs1⟩ : ∃ s1, s + 1 = s1 := ⟨_, rfl⟩
        obtain ⟨bl, ol, hAl, hbl, hcl0⟩ := HLat.out k hlt
        subst hAl
        obtain ⟨b1, o1, e1, _, hcs0⟩ := HCat.out s (by omega)
        cases e1
        obtain ⟨b2, o2, e2, _, hct0⟩ := HCat.out s1 (by omega)
        cases e2
        have hin := lfAt_in hx
        rw [show (s : Int) + 1 = (s1 : Int) by omega] at hin
        have hvn : lfAt L k < n := by have := lfAt_lt (L := L) (k := k) (by rw [Hn.out]; exact hlt); rw [Hn.out] at this; exact this
        have HX := Lib.hid hx
        obtain ⟨v, hv⟩ : ∃ v, lfAt L k = v := ⟨_, rfl⟩
        obtain ⟨u, hu⟩ : ∃ u, ltN L (s : Int) = u := ⟨_, rfl⟩
        obtain ⟨t, ht⟩ : ∃ t, ltN L (s1 : Int) = t := ⟨_, rfl⟩
        have HV := Lib.hid hv
        rw [hv, hu, ht] at hin
        rw [hv] at hcl0 hvn
        rw [hu] at hcs0
        rw [ht] at hct0
        have hcb : W0.cell? ⟨bb, ob + k, none⟩ = some (I (s : Int)) := (HBr.out.cell (p := ⟨bb, ob + k, none⟩) hbb).trans hcb0
        have hcl : W0.cell? ⟨bl, ol + k, none⟩ = some (I (v : Int)) := (HBr.out.cell (p := ⟨bl, ol + k, none⟩) hbl).trans hcl0
        have hcs : W0.cell? ⟨bc, oc + s, none⟩ = some (I (u : Int)) := (HBr.out.cell (p := ⟨bc, oc + s, none⟩) hbc).trans hcs0
        have hct : W0.cell? ⟨bc, oc + s1, none⟩ = some (I (t : Int)) := (HBr.out.cell (p := ⟨bc, oc + s1, none⟩) hbc).trans hct0
        have HCk : Hid (∀ q, Calls Try.prog 28 #[.slice (some ⟨bl, ol, none⟩) n cl, .int .i64 (k : Int)] (W0.drewN q) fun e w' => e = .returned (.int .i64 1) ∧ w' = W0.drewN q) := Lib.hid fun q => by
          have h := HCn.out (k : Int) (W0.drewN q) (HLl.out.below (below_dN HBr.out q))
          rw [lfV_count HOk.out (by rw [Hn.out]; exact hlt)] at h
          exact h
        have q1 : decide ((v : Int) < (u : Int)) = false := by simp; omega
        have q1n : decide (v < u) = false := by simp; omega
        have q2 : decide ((t : Int) ≤ (v : Int)) = false := by simp; omega
        have q2n : decide (t ≤ v) = false := by simp; omega
        have hs258 : s < 258 := by omega
        have hs258i : (s : Int) < 258 := by omega
        have hs1258 : s1 < 258 := by omega
        have hs1258i : (s1 : Int) < 258 := by omega
        have hs1w : IntKind.i64.wrap ((s : Int) + 1) = (s1 : Int) := by rw [IntWalk.i64_in _ (by omega)]; omega
        have hs1w2 : (s : Int) + 1 = (s1 : Int) := by omega
        have hkn2 : (k : Int) < (n : Int) := by omega
        clear hx hx0 hin hv hu ht hs1 hcs0 hct0
        go_wp2
        go_quiet ((go_at_call 28; exact Calls.quiet_of_same (HCk.out _)))
        go_wp2
        go_loopw [7] (fun i wr => ∃ j : Nat, j ≤ k ∧ i = .int .i64 j ∧ Hid (Drawn w4 wr)) (fun i _ => k - (intOf i).toNat)
        case atStart => exact ⟨0, Nat.zero_le _, rfl, Lib.hid (HDr.out.more _)⟩
        case round =>
          obtain ⟨j, hj, rfl, HDs⟩ := hrel
          have HBs : Hid (Below w4.heap.size w4 wr) := Lib.hid (HDs.out.below _)
          clear hcb hcl hcs hct HCk HDr HBr q1 q1n q2 q2n hs1w hs1w2 hs258 hs258i hs1258 hs1258i
          by_cases hjk : j < k
          · obtain ⟨b3, o3, y, e3, _, hy, hcy0⟩ := HBb.out.at_ (i := j) (by rw [Hn.out]; omega)
            cases e3
            obtain ⟨b4, o4, e4, _, hcz0⟩ := HLat.out j (by omega)
            cases e4
            have hord := lfAt_order hy HX.out
            rw [HV.out] at hord
            obtain ⟨z, hz⟩ : ∃ z, lfAt L j = z := ⟨_, rfl⟩
            rw [hz] at hord hcz0
            have hcb : wr.cell? ⟨bb, ob + k, none⟩ = some (I (s : Int)) := (HBs.out.cell (p := ⟨bb, ob + k, none⟩) hbb).trans hcb0
            have hcl : wr.cell? ⟨bl, ol + k, none⟩ = some (I (v : Int)) := (HBs.out.cell (p := ⟨bl, ol + k, none⟩) hbl).trans hcl0
            have hcy : wr.cell? ⟨bb, ob + j, none⟩ = some (I y) := (HBs.out.cell (p := ⟨bb, ob + j, none⟩) hbb).trans hcy0
            have hcz : wr.cell? ⟨bl, ol + j, none⟩ = some (I (z : Int)) := (HBs.out.cell (p := ⟨bl, ol + j, none⟩) hbl).trans hcz0
            have hjn : j < n := by omega
            have hjn2 : (j : Int) < (n : Int) := by omega
            clear hcy0 hcz0 hz
            by_cases hys : y = (s : Int)
            · subst hys
              have hlt2 := hord.2 (.inr ⟨rfl, hjk⟩)
              have q3 : decide ((v : Int) ≤ (z : Int)) = false := by simp; omega
              have q3n : decide (v ≤ z) = false := by simp; omega
              have q4 : ((s : Int) == (s : Int)) = true := by simp
              clear hord hy hlt2
              go_wp2
              go_quiet (fail)
              go_wp2
              go_roundw
              case rel => exact ⟨j + 1, by omega, by go_num, Lib.hid (HDs.out.more _)⟩
              case measure => simp [intOf]; omega
            · have q4 : ((s : Int) == y) = false := by rw [beq_eq_false_iff_ne]; omega
              clear hord hy
              go_wp2
              go_quiet (fail)
              go_wp2
              go_roundw
              case rel => exact ⟨j + 1, by omega, by go_num, Lib.hid (HDs.out.more _)⟩
              case measure => simp [intOf]; omega
          · obtain rfl : j = k := by omega
            go_wp2
            go_roundw
            case rel => exact ⟨j + 1, by omega, by go_num, HDs⟩
            case measure => simp [intOf]; omega
      · obtain rfl : k = n := by omega
        have HF := Lib.hid (below_then HB.out HBr.out)
        go_wp2
        go_ret
        exact ⟨rfl, HF.out⟩
  · have hf : symOk L = false := by simpa using hs
    have h1 : lfV L = [] := by unfold lfV; rw [if_neg hs]
    have h2 : countsV L = [] := by unfold countsV; rw [if_neg hs]
    rw [hf, h1, h2]
    clear sc hs hf h1 h2
    simp only [List.length_nil]
    go_wp2
    go_ret
    exact ⟨rfl, HB.out⟩

end Go.Proofs.Ytkjelakdejbolaa
