/- The program's SparseOk, whole. -/
import Derived.Test.YtlbnngolcoefdaaDoorSp10
import Derived.Test.YtlbnngolcoefdaaDoorSp5
namespace Go.Proofs.YtlbnngolcoefdaaDoor
open Go.RowKit
set_option maxRecDepth 100000

theorem sortedNumbers (V N P M K : Int) (A A' : Option Addr) (H c c' Bs : Nat) (Ws Vs : List Nat) (hp : okP P M K Ws = true) (hb : okB H Vs = true) (hw : ∀ x ∈ Ws, x < 2 ^ 64) (hw' : ∀ x ∈ Vs, x < 2 ^ 64) (hH : H ≤ 5000) (hc : (cnt Vs 1 H : Int) = M) (w : World)
    (hbx : Box w Bs 33 (SPC V N P M K (.slice A Ws.length c) H (.slice A' Vs.length c'))) (hL : Lies w U A Ws) (hL' : Lies w U A' Vs) :
    Calls Tryd.prog 55 #[.func (.func 98) #[] #[.pointer (some ⟨Bs, 0, none⟩)], .int .i64 V] w fun e w' => e = .returned (.bool (srt V 0 (splV P M K Ws H Vs))) ∧ Below w.heap.size w w' :=
  isSortedO _ _ (enters_of Tryd.func98 (by kernel_rfl) rfl) _ V w.heap.size _ w (Nat.le_refl _)
    (numbersO Bs w.heap.size c c' V N P M K A A' H Ws Vs hp hb hw hw' hH hc w (Nat.le_refl _) hbx hL hL')

set_option maxHeartbeats 3200000 in
theorem implSparseOk_good (v n H : Nat) (P M K : Int) (A A' : Option Addr) (c c' : Nat) (Ws Vs : List Nat) (w : World) (hL : Lies w U A Ws) (hL' : Lies w U A' Vs) (hw : ∀ x ∈ Ws, x < 2 ^ 64) (hw' : ∀ x ∈ Vs, x < 2 ^ 64) (hlc : Vs.length ≤ c') (hcm : c' ≤ 9223372036854775807)
    (hf : spFits n v = true) (hv : v ≤ 1000000) (hn : n ≤ 5000) (hp : okP P M K Ws = true) (hb : okB H Vs = true) (hH : H ≤ 5000) :
    Calls Tryd.prog 16 #[SP v n P M K (.slice A Ws.length c) H (.slice A' Vs.length c')] w fun e w' => e = .returned (.bool ((decide (M = n) && decide (P = (lowV n v : Int))) && ((decide ((H : Int) = (hiV n v : Int)) && decide ((cnt Vs 1 H : Int) = n)) && srt v 0 (splV P M K Ws H Vs)))) ∧ Below w.heap.size w w' := by
  have CF := Lib.hid fun W : World => sparseFits_any n v W (by omega)
  rw [hf] at CF
  have CW : Hid (∀ W : World, Calls Tryd.prog 57 #[.int .i64 n, .int .i64 v] W fun e w' => e = .returned (.int .i64 (lowV n v)) ∧ w' = W) := Lib.hid fun W => (implLow_any n v W hv (by omega)).mono fun e w' h => ⟨h.1, h.2.symm⟩
  have CH : Hid (∀ W : World, Calls Tryd.prog 66 #[.int .i64 n, .int .i64 v] W fun e w' => e = .returned (.int .i64 (hiV n v)) ∧ w' = W) := Lib.hid fun W => (highSize_any n v W hv (by omega)).mono fun e w' h => ⟨h.1, h.2.symm⟩
  have hll := lowV_le n v hv
  have hhl : hiV n v ≤ n + v + 1 := by unfold hiV; have := Nat.div_le_self v (2 ^ lowV n v); omega
  have HP := Lib.hid hp
  have HOB := Lib.hid hb
  have CRk : Hid (∀ W : World, Lies W U A' Vs → Calls Tryd.prog 67 #[.agg #[.int .i64 H, .slice A' Vs.length c'], .int .i64 1, .int .i64 H] W fun e w' => e = .returned (.int .i64 (cnt Vs 1 H)) ∧ Below W.heap.size W w') := Lib.hid fun W hl => by
    have h := implRank_any H A' c' Vs 1 H W hl hw' hlc hcm
    unfold rankV at h
    rw [if_pos ⟨hb, .inr rfl, by omega, by omega⟩, Int.toNat_natCast] at h
    exact h
  have HL := Lib.hid hL
  have HL' := Lib.hid hL'
  have HW := Lib.hid hw
  have HW' := Lib.hid hw'
  clear hL hL' hw hw' hf hlc hcm
  have hcl : cnt Vs 1 H ≤ H := cnt_le _ _ _
  have CS : Hid (M = (n : Int) → (cnt Vs 1 H : Int) = n → ∀ (Bs : Nat) (W : World), Box W Bs 33 (SPC v n P M K (.slice A Ws.length c) H (.slice A' Vs.length c')) → Lies W U A Ws → Lies W U A' Vs →
      Calls Tryd.prog 55 #[.func (.func 98) #[] #[.pointer (some ⟨Bs, 0, none⟩)], .int .i64 v] W fun e w' => e = .returned (.bool (srt v 0 (splV P M K Ws H Vs))) ∧ Below W.heap.size W w') :=
    Lib.hid fun h1 h2 Bs W hbx hl hl' => sortedNumbers v n P M K A A' H c c' Bs Ws Vs HP.out HOB.out HW.out HW'.out hH (h2.trans h1.symm) W hbx hl hl'
  generalize srt (v : Int) 0 (splV P M K Ws (H : Int) Vs) = so at *
  generalize cnt Vs 1 H = ct at *
  generalize lowV n v = lw at *
  generalize hiV n v = hs at *
  go_enter Tryd.func16, Tryd.ntmps16
  go_wp2_with fail
  have sc := (Scene.start w).box 33 (SPC v n P M K (.slice A Ws.length c) H (.slice A' Vs.length c'))
  generalize w.alloc (Obj.cells (SPC v n P M K (.slice A Ws.length c) H (.slice A' Vs.length c')) 33) = w1 at *
  refine (CF.out _).mono ?_
  rintro e w2 ⟨rfl, rfl⟩
  clear CF
  obtain ⟨⟨p0, p1, p2, p3, p4, p5, p6, p7⟩, _, hbl⟩ := box_eight (sc.getBox 0 rfl)
  go_wp2_with fail
  clear p0 p1 p2 p3 p4 p5 p6 p7 hbl
  refine (implPackOk_any P M K A c Ws _ (sc.liesOld HL.out) HW.out).mono ?_
  rintro e w2 ⟨rfl, hb2⟩
  rw [hp]
  replace sc := sc.step hb2
  clear hb2 hp
  obtain ⟨⟨p0, p1, p2, p3, p4, p5, p6, p7⟩, _, hbl⟩ := box_eight (sc.getBox 0 rfl)
  go_wp2_with fail
  clear p0 p1 p2 p3 p4 p5 p6 p7 hbl
  refine (implOk_any H A' c' Vs _ (sc.liesOld HL'.out) HW'.out).mono ?_
  rintro e w3 ⟨rfl, hb3⟩
  rw [hb]
  replace sc := sc.step hb3
  clear hb3 hb
  obtain ⟨⟨p0, p1, p2, p3, p4, p5, p6, p7⟩, _, hbl⟩ := box_eight (sc.getBox 0 rfl)
  by_cases hM : M = (n : Int)
  · by_cases hP : P = (lw : Int)
    · have t1 : (M != (n : Int)) = false := by simpa using hM
      have t2 : (P != (lw : Int)) = false := by simpa using hP
      have HE : Hid (((decide (M = (n : Int)) && decide (P = (lw : Int))) && ((decide ((H : Int) = (hs : Int)) && decide ((ct : Int) = n)) && so)) = ((decide ((H : Int) = (hs : Int)) && decide ((ct : Int) = n)) && so)) := Lib.hid (by rw [decide_eq_true hM, decide_eq_true hP, Bool.true_and, Bool.true_and])
      replace CS := Lib.hid (CS.out hM)
      subst hM hP
      go_wp2
      go_quiet ((go_at_call 57; exact Calls.quiet_of_same (CW.out _)))
      replace sc := sc.draw nq
      clear p0 p1 p2 p3 p4 p5 p6 p7 hbl t1 t2 CW
      generalize w3.drewN nq = w4 at *
      obtain ⟨⟨p0, p1, p2, p3, p4, p5, p6, p7⟩, _, pl⟩ := box_eight (sc.getBox 0 rfl)
      by_cases hHs : H = hs
      · subst hHs
        have t3 : ((H : Int) != (H : Int)) = false := by simp
        replace HE : Hid (_ = (decide ((ct : Int) = n) && so)) := Lib.hid (HE.out.trans (by rw [decide_eq_true rfl, Bool.true_and]))
        by_cases hct : (ct : Int) = n
        · have t4 : ((ct : Int) != (n : Int)) = false := by simpa using hct
          have t4n : ct = n := by omega
          have HR := Lib.hid (HE.out.trans (show (decide ((ct : Int) = n) && so) = so by rw [decide_eq_true hct, Bool.true_and]))
          replace CS := Lib.hid (CS.out hct)
          clear HE hct
          go_wp2_with fail
          replace sc := sc.drew
          go_region_held3 (fun w' => w'.cell? ⟨w.heap.size, 0, none⟩ = some (.int .i64 v) ∧ w'.cell? ⟨w.heap.size, 1, none⟩ = some (.int .i64 n) ∧ w'.cell? ⟨w.heap.size, 2, none⟩ = some (.int .i64 lw) ∧ w'.cell? ⟨w.heap.size, 3, none⟩ = some (.int .i64 n) ∧ w'.cell? ⟨w.heap.size, 4, none⟩ = some (.int .i64 K) ∧ w'.cell? ⟨w.heap.size, 5, none⟩ = some (.slice A Ws.length c) ∧ w'.cell? ⟨w.heap.size, 6, none⟩ = some (.int .i64 H) ∧ w'.cell? ⟨w.heap.size, 7, none⟩ = some (.slice A' Vs.length c')) (first | (go_keep; done) | (refine ⟨?_, ?_, ?_, ?_, ?_, ?_, ?_, ?_⟩ <;> assumption)) (first | (go_at_call 66; (with_reducible refine Calls.mono (CH.out _) ?_); rintro e w5 ⟨rfl, rfl⟩) | (go_at_call 67; (with_reducible refine Calls.mono (CRk.out _ (by exact sc.liesOld HL'.out)) ?_); rintro e w5 ⟨rfl, hb5⟩; replace sc := sc.step hb5; clear hb5; obtain ⟨⟨q0, q1, q2, q3, q4, q5, q6, q7⟩, _, ql⟩ := box_eight (sc.getBox 0 rfl)))
          clear p0 p1 p2 p3 p4 p5 p6 p7 pl t3 t4 t4n CH CRk
          go_wp2_with fail
          go_region_held3 (fun w' => w'.cell? ⟨w.heap.size, 0, none⟩ = some (.int .i64 v) ∧ w'.cell? ⟨w.heap.size, 1, none⟩ = some (.int .i64 n) ∧ w'.cell? ⟨w.heap.size, 2, none⟩ = some (.int .i64 lw) ∧ w'.cell? ⟨w.heap.size, 3, none⟩ = some (.int .i64 n) ∧ w'.cell? ⟨w.heap.size, 4, none⟩ = some (.int .i64 K) ∧ w'.cell? ⟨w.heap.size, 5, none⟩ = some (.slice A Ws.length c) ∧ w'.cell? ⟨w.heap.size, 6, none⟩ = some (.int .i64 H) ∧ w'.cell? ⟨w.heap.size, 7, none⟩ = some (.slice A' Vs.length c')) (first | (go_keep; done) | (refine ⟨?_, ?_, ?_, ?_, ?_, ?_, ?_, ?_⟩ <;> assumption)) (first | (go_at_call 63; (with_reducible refine Calls.mono (numbersOf_any _ _ _ _ _ _ _ _ _ _ _ _ _) ?_); rintro e w6 ⟨rfl, rfl⟩; replace sc := (sc.box 33 #[.int .i64 v, .int .i64 n, .int .i64 lw, .int .i64 n, .int .i64 K, .slice A Ws.length c, .int .i64 H, .slice A' Vs.length c']).drew; obtain ⟨⟨r0, r1, r2, r3, r4, r5, r6, r7⟩, _, rl⟩ := box_eight (sc.getBox 1 rfl)) | (go_at_call 55; (with_reducible refine Calls.mono (CS.out _ _ (by exact sc.getBox 0 rfl) (by exact sc.liesOld HL.out) (by exact sc.liesOld HL'.out)) ?_); rintro e w7 ⟨rfl, hb7⟩; replace sc := sc.step hb7; clear hb7; obtain ⟨⟨s0, s1, s2, s3, s4, s5, s6, s7⟩, _, sl⟩ := box_eight (sc.getBox 1 rfl)))
          have HB := Lib.hid sc.below
          clear sc
          go_wp2
          go_ret
          exact ⟨(by first | exact ret_bool HR.out.symm | rfl), HB.out⟩
        · have t4 : ((ct : Int) != (n : Int)) = true := by simpa using hct
          have HR := Lib.hid (HE.out.trans (show (decide ((ct : Int) = n) && so) = false by rw [decide_eq_false hct, Bool.false_and]))
          clear CS HE
          go_wp2_with fail
          replace sc := sc.drew
          go_region_held3 (fun w' => w'.cell? ⟨w.heap.size, 0, none⟩ = some (.int .i64 v) ∧ w'.cell? ⟨w.heap.size, 1, none⟩ = some (.int .i64 n) ∧ w'.cell? ⟨w.heap.size, 2, none⟩ = some (.int .i64 lw) ∧ w'.cell? ⟨w.heap.size, 3, none⟩ = some (.int .i64 n) ∧ w'.cell? ⟨w.heap.size, 4, none⟩ = some (.int .i64 K) ∧ w'.cell? ⟨w.heap.size, 5, none⟩ = some (.slice A Ws.length c) ∧ w'.cell? ⟨w.heap.size, 6, none⟩ = some (.int .i64 H) ∧ w'.cell? ⟨w.heap.size, 7, none⟩ = some (.slice A' Vs.length c')) (first | (go_keep; done) | (refine ⟨?_, ?_, ?_, ?_, ?_, ?_, ?_, ?_⟩ <;> assumption)) (first | (go_at_call 66; (with_reducible refine Calls.mono (CH.out _) ?_); rintro e w5 ⟨rfl, rfl⟩) | (go_at_call 67; (with_reducible refine Calls.mono (CRk.out _ (by exact sc.liesOld HL'.out)) ?_); rintro e w5 ⟨rfl, hb5⟩; replace sc := sc.step hb5; clear hb5; obtain ⟨⟨q0, q1, q2, q3, q4, q5, q6, q7⟩, _, ql⟩ := box_eight (sc.getBox 0 rfl)))
          have HB := Lib.hid sc.below
          clear sc
          go_wp2
          go_ret
          exact ⟨(by first | exact ret_bool HR.out.symm | rfl), HB.out⟩
      · have t3 : ((H : Int) != (hs : Int)) = true := by rw [bne_iff_ne]; omega
        have HR := Lib.hid (HE.out.trans (show ((decide ((H : Int) = (hs : Int)) && decide ((ct : Int) = n)) && so) = false by rw [decide_eq_false (by omega), Bool.false_and, Bool.false_and]))
        have HB := Lib.hid sc.below
        clear sc CS HE
        go_wp2
        go_quiet ((go_at_call 66; exact Calls.quiet_of_same (CH.out _)))
        go_wp2
        go_ret
        exact ⟨(by first | exact ret_bool HR.out.symm | rfl), below_dN HB.out _⟩
    · have HR : Hid (((decide (M = (n : Int)) && decide (P = (lw : Int))) && ((decide ((H : Int) = (hs : Int)) && decide ((ct : Int) = n)) && so)) = false) := Lib.hid (by rw [decide_eq_false hP, Bool.and_false, Bool.false_and])
      have t1 : (M != (n : Int)) = false := by simpa using hM
      have t2 : (P != (lw : Int)) = true := by simpa using hP
      go_wp2
      have HB := Lib.hid sc.below
      clear sc CS
      go_quiet ((go_at_call 57; exact Calls.quiet_of_same (CW.out _)))
      go_wp2
      go_ret
      exact ⟨(by first | exact ret_bool HR.out.symm | rfl), below_dN HB.out _⟩
  · have HR : Hid (((decide (M = (n : Int)) && decide (P = (lw : Int))) && ((decide ((H : Int) = (hs : Int)) && decide ((ct : Int) = n)) && so)) = false) := Lib.hid (by rw [decide_eq_false hM, Bool.false_and, Bool.false_and])
    have t1 : (M != (n : Int)) = true := by simpa using hM
    have HB := Lib.hid sc.below
    clear sc CS
    go_wp2
    go_quiet (fail)
    go_wp2
    go_ret
    exact ⟨(by first | exact ret_bool HR.out.symm | rfl), below_dN HB.out _⟩

end Go.Proofs.YtlbnngolcoefdaaDoor
