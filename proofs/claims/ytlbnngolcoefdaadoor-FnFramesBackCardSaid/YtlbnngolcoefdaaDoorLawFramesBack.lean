/- The law FnFramesBack walked. -/
import Derived.Test.YtlbnngolcoefdaaDoorDrawFs
import Derived.Test.YtlbnngolcoefdaaDoorDraw3p
import Derived.Test.YtlbnngolcoefdaaDoorFrsBk
import Derived.Test.YtlbnngolcoefdaaDoorBytesNew
namespace Go.Proofs.YtlbnngolcoefdaaDoor
open Go.RowKit
set_option maxRecDepth 100000

theorem slice_front (p n c t : Nat) (ht : t ≤ c) : ∀ W : World, (Instr.slice 22 (.slice (some ⟨p, 0, none⟩) n c) none (some (.int .i64 (t : Int))) none).run Tryd.prog W = .ok (.slice (some ⟨p, 0, none⟩) t c) W := fun W => by
  have hz : (sizeOf (Tryd.prog.elem 22)).run Tryd.prog W = .ok 1 W := by kernel_rfl
  rw [run_slice_h (P := Tryd.prog) W 22 (some ⟨p, 0, none⟩) n c Tryd.underlying22 .i64 (t : Int) (by omega) (by omega), Int.toNat_natCast, hz]
  simp [Result.andThen, sliced, Addr.add]

theorem last_item {α : Type} {V : List α} {n : Nat} (h : V.length = n + 1) : ∃ V' v, V = V' ++ [v] ∧ V'.length = n ∧ V[n]? = some v := by
  have hne : V ≠ [] := fun e => by rw [e] at h; cases h
  refine ⟨V.dropLast, V.getLast hne, (List.dropLast_concat_getLast hne).symm, by rw [List.length_dropLast, h]; omega, ?_⟩
  rw [List.getLast_eq_getElem, List.getElem?_eq_getElem (by omega)]
  congr 2
  omega

set_option maxHeartbeats 3200000 in
theorem lawFramesBack (A0 : Option Addr) (c0 : Nat) (D0 : List Nat) (b : Addr) (w : World) (hG : NoFrame w b) (hL : Lies w B8 A0 D0) (hw : ∀ x ∈ D0, x < 2 ^ 8) (hbig : D0.length ≤ 1048576) :
    Calls Tryd.prog 4 #[.slice A0 D0.length c0] w fun e w' => e = .returned (.bool true) ∧ Below w.heap.size w w' := by
  have HG := Lib.hid hG
  have HL := Lib.hid hL
  have HW := Lib.hid hw
  clear hG hL hw
  have tb : decide (1048576 < D0.length) = false := by simp; omega
  go_enter Tryd.func4, Tryd.ntmps4
  go_wp2_with fail
  refine (big_any A0 D0.length c0 w).mono ?_
  rintro e w1 ⟨rfl, rfl⟩
  rw [tb]
  go_wp2_with fail
  refine (drawFramesOf_any A0 c0 D0 w HL.out HW.out hbig).mono ?_
  rintro e w1 ⟨v1, Q, rfl, hf1, hq5, ⟨V, hm, hV⟩, hb1⟩
  obtain ⟨A1, d1, P, rfl, hl1, hPV⟩ := hf1.lies hm (fun v hv => (hV v hv).2)
  have hPQ : P.length ≤ 5 := by
    have h1 := congrArg List.length hm
    have h2 := congrArg List.length hPV
    simp only [List.length_map] at h1 h2
    omega
  have HL1 := Lib.hid hl1
  have HB1 := Lib.hid hb1
  have HV := Lib.hid hV
  have HPV := Lib.hid hPV
  clear hf1 hq5 hm hV hl1 hb1 hPV tb
  go_wp2_with fail
  have hsp := specFramesOf_any A1 d1 P w1 HL1.out (by omega)
  have him := fun W (h : Below w1.heap.size w1 W) => implFramesOf_any A1 d1 P W (HL1.out.below h) (by omega)
  rw [HPV.out] at hsp him
  obtain ⟨R, hR⟩ : ∃ R, (foF [] V).getD [] = R := ⟨_, rfl⟩
  obtain ⟨ok, hok⟩ : ∃ ok, (foF [] V).isSome = ok := ⟨_, rfl⟩
  unfold OfRes at hsp him
  rw [hR, hok] at hsp him
  have HSp := Lib.hid hsp
  have HIm := Lib.hid him
  have HFo : Hid (ok = true → foF [] V = some R) := Lib.hid fun h => by
    rw [← hok] at h
    cases hfo : foF [] V with
    | none => rw [hfo] at h; cases h
    | some D => rw [hfo] at hR; exact congrArg some hR
  clear hsp him hR hok
  refine HSp.out.mono ?_
  rintro e w2 ⟨A2, c2, rfl, _, hb2⟩
  have HB12 := Lib.hid hb2
  clear hb2 HSp
  go_wp2_with fail
  refine (HIm.out w2 HB12.out).mono ?_
  rintro e w3 ⟨A3, c3, rfl, ho3, hb3⟩
  have HO3 := Lib.hid ho3
  have HB13 := Lib.hid (below_then HB12.out hb3)
  have HB3 := Lib.hid (below_then HB1.out HB13.out)
  have HL3 := Lib.hid (HL1.out.below HB13.out)
  clear ho3 hb3 HIm HB12
  have tb0 : (ok != ok) = false := by simp
  have tb1 : (ok == ok) = true := by simp
  cases ok with
  | false =>
    clear HO3 HFo HL3 tb0 tb1
    go_wp2
    go_ret
    exact ⟨rfl, HB3.out⟩
  | true =>
    have hfo := HFo.out rfl
    obtain ⟨hR8, hRN, hRV⟩ := back_all hfo
    have HFo2 := Lib.hid hfo
    have HRN := Lib.hid hRN
    have HRV := Lib.hid hRV
    clear hfo hRN hRV HFo tb0 tb1
    have HRb : Hid (∀ x ∈ R, x < 2 ^ 8) := Lib.hid (by
      obtain ⟨h1, h2⟩ := foF_some V [] R HFo2.out
      rw [h2, List.nil_append]
      exact frsB_byte h1 fun v hv => (HV.out v hv).2)
    obtain ⟨m, hm⟩ : ∃ m, R.length = m := ⟨_, rfl⟩
    have Hm := Lib.hid hm
    rw [hm] at hR8 HO3 ⊢
    obtain ⟨n, hn⟩ : ∃ n, P.length = n := ⟨_, rfl⟩
    have Hn := Lib.hid hn
    rw [hn] at hPQ ⊢
    clear hm hn
    go_wp2_with fail
    have hby := bytesOf_new A3 c3 R w3 (by have := HO3.out; rw [← Hm.out] at this; exact Lies.of_own this) (own_tidy HO3.out) (by rw [Hm.out]; omega)
    unfold NewBytes at hby
    rw [Hm.out] at hby
    refine hby.mono ?_
    rintro e w4 ⟨A4, c4, rfl, ho4, hb4⟩
    have HO4 := Lib.hid ho4
    have HO34 := Lib.hid (own_below HO3.out hb4 (Nat.le_refl _))
    have HB4 := Lib.hid (below_then HB3.out hb4)
    have HL4 := Lib.hid (HL3.out.below hb4)
    have hrd := implFramesRead_any A4 c4 R b w4 (HG.out.below HB4.out) (by have := ho4; rw [← Hm.out] at this; exact Lies.of_own this) HRb.out (by rw [Hm.out]; exact (row_cap ho4).1) (row_cap ho4).2 (by rw [Hm.out]; omega)
    unfold RdsRes at hrd
    rw [HRN.out, HRV.out, Hm.out] at hrd
    have HRd := Lib.hid hrd
    clear hby ho4 hb4 hrd HO3 HB3 HB13 HL3
    go_wp2_with fail
    refine HRd.out.mono ?_
    rintro e w5 ⟨v5, Q5, rfl, hf5, hm5, _, hb5⟩
    obtain ⟨A5, d5, P5, rfl, hl5, hPV5⟩ := hf5.lies hm5 (fun v hv => (HV.out v hv).2)
    have hn5 : P5.length = n := by
      have h1 := congrArg List.length hPV5
      have h2 := congrArg List.length HPV.out
      simp only [List.length_map] at h1 h2
      rw [h1, ← h2, Hn.out]
    rw [hn5]
    have HL5 := Lib.hid (HL4.out.below hb5)
    have HG5 := Lib.hid hl5
    have HVal : Hid (P.map FrA.val = P5.map FrA.val) := Lib.hid (HPV.out.trans hPV5.symm)
    have HO5 := Lib.hid (own_below HO34.out hb5 (Nat.le_refl _))
    have HB5 := Lib.hid (below_then HB4.out hb5)
    have Hn5 := Lib.hid hn5
    clear hf5 hm5 hb5 hl5 hPV5 hn5 HRd HO4 HO34 HB4 HL4 HL1 HB1
    have tm : ((m : Int) != (m : Int)) = false := by simp
    have tn : ((n : Int) != (n : Int)) = false := by simp
    go_wp2
    go_loopw [10] (fun i wr => ∃ k : Nat, k ≤ n ∧ i = .int .i64 k ∧ Drawn w5 wr) (fun i _ => n - (intOf i).toNat)
    case atStart => exact ⟨0, Nat.zero_le _, rfl, Drawn.refl _⟩
    case round =>
      obtain ⟨k, hk, rfl, q0, rfl⟩ := hrel
      by_cases hlt : k < n
      · obtain ⟨p, hpp⟩ : ∃ p, P[k]? = some p := ⟨P[k]'(by rw [Hn.out]; exact hlt), List.getElem?_eq_getElem _⟩
        obtain ⟨p5, hpp5⟩ : ∃ p, P5[k]? = some p := ⟨P5[k]'(by rw [Hn5.out]; exact hlt), List.getElem?_eq_getElem _⟩
        obtain ⟨⟨b1, o1, rfl, hbl, hc0, hc1⟩, hpl, hpt, hpb⟩ := HL5.out k p hpp
        obtain ⟨⟨b5, o5, rfl, hbl5, hd0, hd1⟩, hql, hqt, hqb⟩ := HG5.out k p5 hpp5
        have hval : (p5.K, p5.L) = (p.K, p.L) := by
          have h1 : (P.map FrA.val)[k]? = some p.val := by rw [List.getElem?_map, hpp]; rfl
          rw [HVal.out, List.getElem?_map, hpp5] at h1
          exact Option.some.inj h1
        have hK : p5.K = p.K := congrArg Prod.fst hval
        have hLL : p5.L = p.L := congrArg Prod.snd hval
        have hA5 : p5.A = none ∨ ∃ b o, p5.A = some ⟨b, o, none⟩ := by
          rcases hqt with ⟨h, _⟩ | h
          · exact .inl h
          · exact .inr h
        have hA1 : p.A = none ∨ ∃ b o, p.A = some ⟨b, o, none⟩ := by
          rcases hpt with ⟨h, _⟩ | h
          · exact .inl h
          · exact .inr h
        have hcv5 := fun q => conv_any (P := Tryd.prog) (w5.drewN q) 22 5 9 Tryd.underlying22 Tryd.underlying5 Tryd.underlying9 p5.A p5.c _ hA5 (hql.drewN q)
        have hcv1 := fun q => conv_any (P := Tryd.prog) (w5.drewN q) 22 5 9 Tryd.underlying22 Tryd.underlying5 Tryd.underlying9 p.A p.c _ hA1 (hpl.drewN q)
        rw [hLL] at hcv5 hd1
        rw [hK] at hd0
        generalize bstr p.L = S1 at *
        generalize p.L.length = l1 at *
        generalize p.K = K1 at *
        generalize p.A = Ap at *
        generalize p.c = cp at *
        generalize p5.A = Ap5 at *
        generalize p5.c = cp5 at *
        have n1 : (S1.toList == S1.toList) = true := by simp
        have n2 : (K1 != K1) = false := by simp
        have tl : decide ((k : Int) < (n : Int)) = true := by simp; omega
        have k0 : (0 : Int) ≤ (k : Int) := by omega
        have k1 : (k : Int) < (n : Int) := by omega
        clear hpp hpp5 hpl hpt hpb hql hqt hqb hval hK hLL hA5 hA1
        replace hc0 : ∀ q, (w5.drewN q).cell? ⟨b1, o1 + k * 2, none⟩ = some (.int .i64 K1) := fun _ => hc0
        replace hc1 : ∀ q, (w5.drewN q).cell? ⟨b1, o1 + k * 2 + 1, none⟩ = some (.slice Ap l1 cp) := fun _ => hc1
        replace hd0 : ∀ q, (w5.drewN q).cell? ⟨b5, o5 + k * 2, none⟩ = some (.int .i64 K1) := fun _ => hd0
        replace hd1 : ∀ q, (w5.drewN q).cell? ⟨b5, o5 + k * 2 + 1, none⟩ = some (.slice Ap5 l1 cp5) := fun _ => hd1
        replace hbl : ∀ q, b1 < (w5.drewN q).heap.size := fun _ => hbl
        replace hbl5 : ∀ q, b5 < (w5.drewN q).heap.size := fun _ => hbl5
        go_wp2_with fail
        go_quiet (fail)
        go_wp2
        go_roundw
        case rel => exact ⟨k + 1, by omega, by go_num, ⟨_, rfl⟩⟩
        case measure => simp [intOf]; omega
      · have HB6 : Hid (Below w.heap.size w (w5.drewN q0)) := Lib.hid (below_dN HB5.out q0)
        have HL6 : Hid (LiesF (w5.drewN q0) A1 P) := Lib.hid (HL5.out.below (below_dN (Below.refl _ _) q0))
        have HO6 : Hid ((w5.drewN q0).ownsRow w2.heap.size 5 1 (.slice A3 m c3) m (R.map B8)) := HO5
        have tl : decide ((k : Int) < (n : Int)) = false := by simp; omega
        clear HB5 HL5 HG5 HO5 HVal Hn5 hk
        generalize w5.drewN q0 = w6 at *
        rcases Nat.eq_zero_or_pos n with h0 | h0
        · subst h0
          have hP0 : P = [] := List.length_eq_zero_iff.1 Hn.out
          have hV0 : V = [] := by rw [← HPV.out, hP0]; rfl
          have hm0 : m = 0 := by
            have h := HFo2.out
            rw [hV0] at h
            have : R = [] := (Option.some.inj h).symm
            rw [← Hm.out, this]
            rfl
          subst hm0
          clear HFo2 hP0 hV0
          go_wp2
          go_ret
          exact ⟨rfl, HB6.out⟩
        · obtain ⟨j, hj⟩ : ∃ j, n = j + 1 := ⟨n - 1, by omega⟩
          obtain ⟨P', p, hP', hP'l, hpp⟩ := last_item (Hn.out.trans hj)
          have hV' : V = P'.map FrA.val ++ [p.val] := by rw [← HPV.out, hP', List.map_append]; rfl
          obtain ⟨⟨b1, o1, rfl, hbl, hc0, hc1⟩, hpl, hpt, hpb⟩ := HL6.out j p hpp
          have hfo := HFo2.out
          rw [hV'] at hfo
          obtain ⟨hf1, hf7, hcut⟩ := back_cut hfo hpb
          obtain ⟨f, hf⟩ : ∃ f, (frV p.val.1 p.val.2).length = f := ⟨_, rfl⟩
          have hfr := implFrameOf_any p.K p.A p.c p.L w6 hpl hpt hpb
          unfold NewBytes at hfr
          have hf' : (frV p.K p.L).length = f := hf
          rw [hf'] at hfr
          rw [hf, Hm.out] at hf1
          rw [hf] at hf7
          rw [hf, Hm.out, List.length_map, hP'l] at hcut
          have HFr := Lib.hid hfr
          have HCut := Lib.hid hcut
          obtain ⟨L1, hL1⟩ : ∃ L1, p.L.length = L1 := ⟨_, rfl⟩
          rw [hL1] at hc1 HFr
          generalize p.K = K1 at *
          generalize p.A = Ap at *
          generalize p.c = cp at *
          have e1 : (n : Int) - 1 = (j : Int) := by omega
          have e1w : IntKind.i64.wrap ((n : Int) - 1) = (j : Int) := (IntKind.wrap_i64 _).trans (by omega)
          have k0 : (0 : Int) ≤ (j : Int) := by omega
          have k1 : (j : Int) < (n : Int) := by omega
          have tz : ((n : Int) == 0) = false := by rw [beq_eq_false_iff_ne]; omega
          clear hj hpp hP' hV' hfo hpl hpt hpb hf hf' hfr hcut hL1 HFo2 hP'l
          go_wp2_with fail
          refine HFr.out.mono ?_
          rintro e w7 ⟨Af, cf, rfl, _, hb7⟩
          have HB7 := Lib.hid (below_then HB6.out hb7)
          have HO7 := Lib.hid (own_below HO6.out hb7 (Nat.le_refl _))
          clear hb7 HB6 HO6 HFr hc0 hc1 hbl HL6
          obtain ⟨g3, cap, hv, hg3, hg3l⟩ := HO7.out.form (by omega)
          injection hv with hv1 _ hv3
          subst hv1 hv3
          go_wp2_with fail
          refine (lpick_any A0 c0 D0 5 (f : Int) w7 (HL.out.below HB7.out) HW.out hbig (by omega) (by omega)).mono ?_
          rintro e w8 ⟨r, rfl, hr, rfl⟩
          have hrf : (r : Int) < (f : Int) := hr.1 (by omega)
          obtain ⟨t, ht⟩ : ∃ t, m - 1 - r = t := ⟨_, rfl⟩
          have et : (m : Int) - 1 - (r : Int) = (t : Int) := by omega
          have etw : IntKind.i64.wrap ((m : Int) - 1 - (r : Int)) = (t : Int) := (IntKind.wrap_i64 _).trans (by omega)
          have htm : t ≤ m := by omega
          obtain ⟨q1, q2⟩ := HCut.out r (by omega)
          rw [ht] at q1 q2
          have hcap := row_cap HO7.out
          have hsl := slice_front g3 m c3 t (by omega)
          have hLt : Lies w7 B8 (some ⟨g3, 0, none⟩) (R.take t) := by
            have h := (Lies.of_own (by have := HO7.out; rw [← Hm.out] at this; exact this)).piece 0 t
            rw [List.drop_zero] at h
            exact h
          have htl : (R.take t).length = t := by rw [List.length_take, Hm.out]; omega
          have hrd := implFramesRead_any (some ⟨g3, 0, none⟩) c3 (R.take t) b w7 (HG.out.below HB7.out) hLt (fun x hx => HRb.out x (List.mem_of_mem_take hx)) (by omega) hcap.2 (by omega)
          unfold RdsRes at hrd
          rw [q1, htl] at hrd
          have HRd := Lib.hid hrd
          have Q2 := Lib.hid q2
          clear hr ht q1 q2 hLt htl hrd HCut HO7 hg3l
          go_wp2_with fail
          refine HRd.out.mono ?_
          rintro e w9 ⟨v9, Q9, rfl, hf9, hm9, _, hb9⟩
          obtain ⟨A9, d9, rfl⟩ := hf9.len
          have hq9 : Q9.length = j := by
            have h1 := congrArg List.length hm9
            simp only [List.length_map] at h1
            rw [h1, Q2.out]
          rw [hq9]
          have HB9 := Lib.hid (below_then HB7.out hb9)
          have u3 : IntKind.i64.wrap ((m : Int) - (f : Int)) = (m : Int) - (f : Int) := (IntKind.wrap_i64 _).trans (by omega)
          have u4 : ((j : Int) == (j : Int)) = true := by simp
          have u5 : ((m : Int) - (f : Int) == (m : Int) - (f : Int)) = true := by simp
          clear hf9 hm9 hb9 HRd HB7 hq9
          go_wp2
          go_ret
          exact ⟨rfl, HB9.out⟩

end Go.Proofs.YtlbnngolcoefdaaDoor
