/- readHead and readSum of the program, whole. -/
import Derived.Test.YtlbnngolcoefdaaDoorFrRd1
namespace Go.Proofs.YtlbnngolcoefdaaDoor
open Go.RowKit
set_option maxRecDepth 100000

theorem hdV_mark {D : List Nat} {a : Nat} {x : Nat} (hx : D[a]? = some x) (h : x ≠ 90) : hdV D a = none := by
  unfold hdV
  rw [if_neg]
  rintro ⟨_, _, h3⟩
  rw [Int.toNat_natCast, hx] at h3
  injection h3 with h3
  exact h h3
theorem hdV_out {D : List Nat} {a : Int} (h : ¬ (0 ≤ a ∧ a < D.length)) : hdV D a = none := by
  unfold hdV
  rw [if_neg]
  rintro ⟨h1, h2, _⟩
  exact h ⟨h1, by omega⟩
/-- What VarRead says of the length, and what that makes of the head. -/
theorem hdV_var {D : List Nat} {a : Nat} (hx : D[a]? = some 90) (hD : ∀ x ∈ D, x < 2 ^ 8) :
    (vrV D ((a : Int) + 2) = (0, 0, false) ∧ hdV D a = none) ∨ ∃ n j : Nat, vrV D ((a : Int) + 2) = ((n : Int), ((a + 2 + j : Nat) : Int), true) ∧ a + 2 + j ≤ D.length ∧ n ≤ 4294967295 ∧ hdV D a = if n ≤ 8000 ∧ a + 2 + j + n ≤ D.length then some (a + 2 + j, a + 2 + j + n) else none := by
  have ha : a < D.length := (List.getElem?_eq_some_iff.1 hx).1
  unfold hdV vrV
  rw [Int.toNat_natCast]
  by_cases h : a + 2 < D.length
  · rw [if_pos ⟨by omega, by omega⟩, if_pos ⟨by omega, by omega, hx⟩, show ((a : Int) + 2).toNat = a + 2 by omega]
    cases hr : rdF 5 0 0 (D.drop (a + 2)) with
    | none => exact .inl ⟨rfl, rfl⟩
    | some p =>
      obtain ⟨n, j⟩ := p
      obtain ⟨_, h1, _, _, h2⟩ := rd_bytes (fun x hx => hD x (List.mem_of_mem_drop hx)) hr
      rw [List.length_drop] at h1
      refine .inr ⟨n, j, ?_, by omega, h2, rfl⟩
      simp only [Prod.mk.injEq, true_and, and_true]
      omega
  · rw [if_neg (by omega), if_neg (by omega)]
    exact .inl ⟨rfl, rfl⟩

set_option maxHeartbeats 1600000 in
theorem implHead_in (n c : Nat) (A : Option Addr) (D : List Nat) (a : Nat) (b : Addr) (w : World) (hG : NoFrame w b) (hD : Lies w B8 A D) (Hn : Hid (D.length = n)) (hw : ∀ x ∈ D, x < 2 ^ 8) (ha : a < n) (hnc : n ≤ c) (hcm : c ≤ 9223372036854775807) (hn : n ≤ 17592186044416) :
    Calls Tryd.prog 110 #[.slice A n c, .int .i64 a] w fun e w' => HdEnd D a b e ∧ Below w.heap.size w w' := by
  have d0 : decide ((a : Int) < 0) = false := by simp
  have d1 : decide ((n : Int) ≤ (a : Int)) = false := by simp; omega
  have d1n : decide (n ≤ a) = false := by simp; omega
  obtain ⟨p, o, x, rfl, hpl, hx, hc⟩ := hD.at_ (i := a) (by rw [Hn.out]; exact ha)
  have hxb := hw x (List.mem_of_getElem? hx)
  have g0 := hG.1
  have HG := Lib.hid hG
  clear hG
  by_cases h90 : x = 90
  · subst h90
    have HR := Lib.hid (implVarRd_any (some ⟨p, o, none⟩) c D ((a : Int) + 2) w hD hw (by rw [Hn.out]; exact hnc) hcm (by rw [Hn.out]; exact hn))
    rw [Hn.out] at HR
    have HV := Lib.hid (hdV_var hx hw)
    rw [Hn.out] at HV
    have e2 : IntKind.i64.wrap ((a : Int) + 2) = (a : Int) + 2 := IntWalk.i64_in _ (by omega)
    clear hx hD hw
    go_enter Tryd.func110, Tryd.ntmps110
    go_wp2_with fail
    refine HR.out.mono ?_
    rintro e w1 ⟨hv, hb1⟩
    have HB1 := Lib.hid hb1
    have g1 := (HG.out.below hb1).1
    clear hb1 hc g0 HR
    unfold VrEnd at hv
    rcases HV.out with ⟨hvr, hh⟩ | ⟨m, j, hvr, hj, hm, hh⟩
    · rw [hvr] at hv
      subst hv
      have HH := Lib.hid hh
      clear hh hvr HV
      go_wp2
      go_region
      all_goals go_wp2
      all_goals go_ret3
      all_goals exact ⟨hd_none HH.out, HB1.out.drew⟩
    · rw [hvr] at hv
      subst hv
      have HH := Lib.hid hh
      clear hh hvr HV
      obtain ⟨s, hs⟩ : ∃ s, a + 2 + j = s := ⟨_, rfl⟩
      rw [hs] at HH hj
      simp only [hs]
      clear hs
      by_cases h1 : m ≤ 8000
      · have t1 : decide ((8000 : Int) < (m : Int)) = false := by simp; omega
        have t1n : decide (8000 < m) = false := by simp; omega
        have e3 : IntKind.i64.wrap ((n : Int) - (s : Int)) = (n : Int) - (s : Int) := IntWalk.i64_in _ (by omega)
        by_cases h2 : s + m ≤ n
        · have t2 : decide ((n : Int) - (s : Int) < (m : Int)) = false := by simp; omega
          have HM : Hid (hdV D a = some (s, s + m)) := Lib.hid (by rw [HH.out, if_pos ⟨h1, h2⟩])
          clear HH
          go_wp2
          go_ret3
          exact ⟨by have := hd_some (b := b) HM.out; simpa using this, HB1.out⟩
        · have t2 : decide ((n : Int) - (s : Int) < (m : Int)) = true := by simp; omega
          have HM : Hid (hdV D a = none) := Lib.hid (by rw [HH.out, if_neg (fun h => h2 h.2)])
          clear HH
          go_wp2
          go_region
          all_goals go_wp2
          all_goals go_ret3
          all_goals exact ⟨hd_none HM.out, HB1.out.drew⟩
      · have t1 : decide ((8000 : Int) < (m : Int)) = true := by simp; omega
        have t1n : decide (8000 < m) = true := by simp; omega
        have HM : Hid (hdV D a = none) := Lib.hid (by rw [HH.out, if_neg (fun h => h1 h.1)])
        clear HH
        go_wp2
        go_region
        all_goals go_wp2
        all_goals go_ret3
        all_goals exact ⟨hd_none HM.out, HB1.out.drew⟩
  · have HM := Lib.hid (hdV_mark hx h90)
    have n1 : ((x : Int) == 90) = false := by simp; omega
    have n2 : ¬ (x : Int) = 90 := by omega
    have n3 : decide ((x : Int) = 90) = false := by simp; omega
    clear hx hD hw
    go_enter Tryd.func110, Tryd.ntmps110
    go_wp2
    go_region
    all_goals go_wp2
    all_goals go_ret3
    all_goals exact ⟨hd_none HM.out, by go_grown⟩

theorem implHead_any (A : Option Addr) (c : Nat) (D : List Nat) (a : Int) (b : Addr) (w : World) (hG : NoFrame w b) (hD : Lies w B8 A D) (hw : ∀ x ∈ D, x < 2 ^ 8) (hnc : D.length ≤ c) (hcm : c ≤ 9223372036854775807) (hn : D.length ≤ 17592186044416) :
    Calls Tryd.prog 110 #[.slice A D.length c, .int .i64 a] w fun e w' => HdEnd D a b e ∧ Below w.heap.size w w' := by
  by_cases h : 0 ≤ a ∧ a < D.length
  · obtain ⟨m, rfl⟩ := Int.eq_ofNat_of_zero_le h.1
    exact implHead_in D.length c A D m b w hG hD (Lib.hid rfl) hw (by omega) hnc hcm hn
  · refine (implHead_out A D.length c a b w hG (by omega)).mono fun e w' h' => ⟨?_, h'.2⟩
    rw [h'.1]
    exact hd_none (hdV_out h)

/-- How readSum ends. -/
def SumEnd (D : List Nat) (a t : Nat) (b : Addr) (e : Ending) : Prop :=
  e = .returned (if (D.drop t).take 4 = four (crcL ((D.drop a).take (t - a))) then .tuple #[.int .i64 ((t : Int) + 4), .nilIface] else .tuple #[.int .i64 0, EN b])

set_option maxHeartbeats 1600000 in
theorem implSum_any (p o n c : Nat) (D : List Nat) (a t : Nat) (b : Addr) (w : World) (hG : NoFrame w b) (hD : Lies w B8 (some ⟨p, o, none⟩) D) (Hn : Hid (D.length = n)) (hw : ∀ x ∈ D, x < 2 ^ 8) (ha : a < t) (ht : t ≤ n) (hl : t ≤ a + 16000) (hnc : n ≤ c) (hcm : c ≤ 9223372036854775807) (hn : n ≤ 17592186044416) :
    Calls Tryd.prog 111 #[.slice (some ⟨p, o, none⟩) n c, .int .i64 a, .int .i64 t] w fun e w' => SumEnd D a t b e ∧ Below w.heap.size w w' := by
  obtain ⟨C, hC⟩ : ∃ C, (D.drop a).take (t - a) = C := ⟨_, rfl⟩
  have hCl : C.length = t - a := by rw [← hC, List.length_take, List.length_drop, Hn.out]; omega
  have hCw : ∀ x ∈ C, x < 2 ^ 8 := fun x hx => by rw [← hC] at hx; exact hw x (List.mem_of_mem_drop (List.mem_of_mem_take hx))
  have hCL : Lies w B8 (some ⟨p, o + a, none⟩) C := by rw [← hC]; exact hD.piece a (t - a)
  have hcr : crcV C = (crcL C : Int) := by unfold crcV; rw [if_neg (by omega)]
  have H1 := Lib.hid (implCrc_any (some ⟨p, o + a, none⟩) (c - a) C w hCL hCw)
  rw [hCl, hcr] at H1
  obtain ⟨E, hE⟩ : ∃ E, D.drop t = E := ⟨_, rfl⟩
  have hEl : E.length = n - t := by rw [← hE, List.length_drop, Hn.out]
  have hEw : ∀ x ∈ E, x < 2 ^ 8 := fun x hx => by rw [← hE] at hx; exact hw x (List.mem_of_mem_drop hx)
  have hEL : Lies w B8 (some ⟨p, o + t, none⟩) E := by
    have h := hD.piece t (D.length - t)
    rwa [List.take_of_length_le (by rw [List.length_drop]; omega), hE] at h
  have HX : Hid (SumEnd D a t b = fun e => e = .returned (if E.take 4 = four (crcL C) then .tuple #[.int .i64 ((t : Int) + 4), .nilIface] else .tuple #[.int .i64 0, EN b])) := Lib.hid (by
    funext e
    unfold SumEnd
    rw [hE, hC])
  have HCL := Lib.hid (crcL_lt C hCw)
  have HEw := Lib.hid hEw
  have HEL := Lib.hid hEL
  have HEn := Lib.hid hEl
  have HG := Lib.hid hG
  clear hC hE hCl hCw hCL hcr hEl hEw hEL hD hw hG
  have b1 : (a : Int) ≤ (t : Int) := by omega
  have b2 : (t : Int) ≤ (c : Int) := by omega
  have hsl : ∀ W : World, (Instr.slice 22 (.slice (some ⟨p, o, none⟩) n c) (some (.int .i64 (a : Int))) (some (.int .i64 (t : Int))) none).run Tryd.prog W = .ok (.slice (some ⟨p, o + a, none⟩) (t - a) (c - a)) W := fun W => by
    have h := run_slice_lh (P := Tryd.prog) W 22 (some ⟨p, o, none⟩) n c Tryd.underlying22 .i64 .i64 (a : Int) (t : Int) (by omega) b1 b2
    rw [h]
    rw [Int.toNat_natCast, Int.toNat_natCast]
    have hz : (sizeOf (Tryd.prog.elem 22)).run Tryd.prog W = .ok 1 W := by kernel_rfl
    rw [hz]
    simp [Result.andThen, sliced, Addr.add, show ¬ c = a by omega]
  obtain ⟨o', hs2, HE'⟩ : ∃ o', (∀ W : World, (Instr.slice 22 (.slice (some ⟨p, o, none⟩) n c) (some (.int .i64 (t : Int))) none none).run Tryd.prog W = .ok (.slice (some ⟨p, o', none⟩) (n - t) (c - t)) W) ∧ Hid (Lies w B8 (some ⟨p, o', none⟩) E) := by
    have hz : ∀ W : World, (sizeOf (Tryd.prog.elem 22)).run Tryd.prog W = .ok 1 W := fun W => by kernel_rfl
    by_cases hct : c = t
    · refine ⟨o, fun W => ?_, Lib.hid ?_⟩
      · rw [run_slice_l (P := Tryd.prog) W 22 (some ⟨p, o, none⟩) n c Tryd.underlying22 .i64 (t : Int) (by omega) (by omega), Int.toNat_natCast, hz]
        simp [Result.andThen, sliced, Addr.add, hct]
      · have : E = [] := List.length_eq_zero_iff.1 (by rw [HEn.out]; omega)
        rw [this]
        exact Lies.nil_
    · refine ⟨o + t, fun W => ?_, HEL⟩
      rw [run_slice_l (P := Tryd.prog) W 22 (some ⟨p, o, none⟩) n c Tryd.underlying22 .i64 (t : Int) (by omega) (by omega), Int.toNat_natCast, hz]
      simp [Result.andThen, sliced, Addr.add, hct]
      omega
  clear HEL
  go_enter Tryd.func111, Tryd.ntmps111
  go_wp2_with fail
  refine H1.out.mono ?_
  rintro e w1 ⟨rfl, rfl⟩
  go_wp2_with fail
  refine (implFour (crcL C) HCL.out _).mono ?_
  rintro e w2 ⟨B2, c2, rfl, ho2, hb2⟩
  have HO2 := Lib.hid ho2
  have HB2 := Lib.hid hb2
  have H2 := Lib.hid (bytesPrefix p o' B2 (c - t) c2 E (four (crcL C)) w2 (HE'.out.below hb2) (Lies.of_own ho2) (own_tidy ho2) HEw.out (four_byte _) (by rw [HEn.out]; omega) (by omega))
  rw [HEn.out] at H2
  have h4 : (four (crcL C)).length = 4 := rfl
  have g1 := (HG.out.below hb2).1
  clear ho2 hb2 hsl H1
  go_wp2_with fail
  refine H2.out.mono ?_
  rintro e w3 ⟨rfl, rfl⟩
  rw [h4]
  have e4 : IntKind.i64.wrap ((t : Int) + 4) = (t : Int) + 4 := IntWalk.i64_in _ (by omega)
  clear H2 hs2
  by_cases hq : E.take 4 = four (crcL C)
  · have HF : Hid (SumEnd D a t b (.returned (.tuple #[.int .i64 ((t : Int) + 4), .nilIface]))) := Lib.hid (by rw [HX.out]; rw [if_pos hq])
    rw [decide_eq_true hq]
    clear HX hq
    generalize four (crcL C) = Q at *
    go_wp2
    go_ret2
    exact ⟨HF.out, HB2.out⟩
  · have HF : Hid (SumEnd D a t b (.returned (.tuple #[.int .i64 0, EN b]))) := Lib.hid (by rw [HX.out]; rw [if_neg hq])
    rw [decide_eq_false hq]
    clear HX hq
    generalize four (crcL C) = Q at *
    go_wp2
    go_region
    all_goals go_wp2
    all_goals go_ret2
    all_goals exact ⟨HF.out, HB2.out.drew⟩

end Go.Proofs.YtlbnngolcoefdaaDoor
