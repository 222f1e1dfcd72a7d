/- The library's symMerge, whole. -/
import Derived.Test.YtoehgcakfblblaaSt2
namespace Go.Proofs.Ytoehgcakfblblaa
open Go.RowKit Go.Sort Go.Shelf Go.Lib
set_option maxRecDepth 100000

section
variable {m blk off g : Nat} {cb : Array Value} {w0 : World} {d0 : Array (Fin (m + 1))} {cf : Fin (m + 1) → Fin (m + 1) → Int} {lt' : Fin (m + 1) → Fin (m + 1) → Bool} {idx : Fin (m + 1) → Nat}

set_option maxHeartbeats 30000000 in
theorem symWhole_any (K : KeyO cf lt' idx) (R : Row1 (encS m) w0 blk off d0) (hC : CmpLays1 Try.prog g cb (encS m) cf blk off d0.size w0) (eg : ∀ args w, (callFunc g args).run Try.prog w = .ok (.enter g args) w)
    (cap a c b : Nat) (d : Array (Fin (m + 1))) (w : World) (hs : d.size = d0.size) (S : SW (encS m) w0 blk off d w) (hac : a + 1 < c) (hcb : c + 1 < b) (hb : b ≤ d.size) (hsz : d.size ≤ 1000) (h1 : SortedIn lt' a c d) (h2 : SortedIn lt' c b d) (h3 : OrdI idx a c b d)
    (IH : ∀ (a' c' b' : Nat) (d' : Array (Fin (m + 1))) (w' : World), b' - a' < b - a → d'.size = d0.size → SW (encS m) w0 blk off d' w' → a' < c' → c' < b' → b' ≤ d'.size → SortedIn lt' a' c' d' → SortedIn lt' c' b' d' → OrdI idx a' c' b' d' →
      Calls Try.prog 137 #[.slice (some ⟨blk, off, none⟩) d'.size cap, .int .i64 a', .int .i64 c', .int .i64 b', .func (.func g) #[] cb] w' (SymPost lt' w0 blk off a' b' d')) :
    Calls Try.prog 137 #[.slice (some ⟨blk, off, none⟩) d.size cap, .int .i64 a, .int .i64 c, .int .i64 b, .func (.func g) #[] cb] w (SymPost lt' w0 blk off a b d) := by
  have mixed : Try.prog.follows .mixedOrders = true := by kernel_rfl
  have S0 : Hid (SW (encS m) w0 blk off d w) := S
  have HC := Lib.hid hC
  have H1 := Lib.hid h1
  have H2 := Lib.hid h2
  have H3 := Lib.hid h3
  have HIH := Lib.hid IH
  clear S hC h1 h2 h3 IH
  obtain ⟨N, hN⟩ : ∃ N, d.size = N := ⟨_, rfl⟩
  have HN := Lib.hid hN
  have HS : Hid (N = d0.size) := Lib.hid (by omega)
  rw [hN] at hb hsz
  rw [hN]
  clear hN hs
  obtain ⟨u, hu⟩ : ∃ u, c - a = u := ⟨_, rfl⟩
  have e0 : (c : Int) - (a : Int) = (u : Int) := by omega
  have w0' : IntKind.i64.wrap ((c : Int) - (a : Int)) = (u : Int) := by rw [IntKind.wrap_i64]; omega
  have t0 : ((u : Int) == 1) = false := by rw [beq_eq_false_iff_ne]; omega
  obtain ⟨v, hv⟩ : ∃ v, b - c = v := ⟨_, rfl⟩
  have e1 : (b : Int) - (c : Int) = (v : Int) := by omega
  have w1 : IntKind.i64.wrap ((b : Int) - (c : Int)) = (v : Int) := by rw [IntKind.wrap_i64]; omega
  have t1 : ((v : Int) == 1) = false := by rw [beq_eq_false_iff_ne]; omega
  obtain ⟨s, hs⟩ : ∃ s, a + b = s := ⟨_, rfl⟩
  have es : (a : Int) + (b : Int) = (s : Int) := by omega
  have ws : IntKind.i64.wrap ((a : Int) + (b : Int)) = (s : Int) := by rw [IntKind.wrap_i64]; omega
  have us : IntKind.u64.wrap (s : Int) = (s : Int) := by rw [IntKind.wrap_u64]; omega
  obtain ⟨mid, hmid⟩ : ∃ mid, s / 2 = mid := ⟨_, rfl⟩
  have em : (s : Int) / 2 = (mid : Int) := by omega
  have um : IntKind.u64.wrap (mid : Int) = (mid : Int) := by rw [IntKind.wrap_u64]; omega
  have wm : IntKind.i64.wrap (mid : Int) = (mid : Int) := by rw [IntKind.wrap_i64]; omega
  obtain ⟨n, hn⟩ : ∃ n, mid + c = n := ⟨_, rfl⟩
  have en : (mid : Int) + (c : Int) = (n : Int) := by omega
  have wn : IntKind.i64.wrap ((mid : Int) + (c : Int)) = (n : Int) := by rw [IntKind.wrap_i64]; omega
  obtain ⟨p, hp⟩ : ∃ p, n - 1 = p := ⟨_, rfl⟩
  have ep : (n : Int) - 1 = (p : Int) := by omega
  have wp : IntKind.i64.wrap ((n : Int) - 1) = (p : Int) := by rw [IntKind.wrap_i64]; omega
  have hcase : (mid < c ∧ ∃ lo hi : Nat, lo = n - b ∧ hi = mid) ∨ (¬ mid < c ∧ ∃ lo hi : Nat, lo = a ∧ hi = c) := by
    by_cases h : mid < c
    · exact .inl ⟨h, _, _, rfl, rfl⟩
    · exact .inr ⟨h, _, _, rfl, rfl⟩
  have hma : a < mid := by omega
  have hmb : mid < b := by omega
  have Hn : Hid (mid + c = n) := Lib.hid hn
  have Hp : Hid (p + 1 = n) := Lib.hid (by omega)
  go_enter Try.func137, Try.ntmps137
  rcases hcase with ⟨hmc, lo, hi, hlo, hhi⟩ | ⟨hmc, lo, hi, hlo, hhi⟩
  case' inl =>
    have tm : decide ((mid : Int) < (c : Int)) = true := by simp; omega
    have el : (n : Int) - (b : Int) = (lo : Int) := by omega
    have wl : IntKind.i64.wrap ((n : Int) - (b : Int)) = (lo : Int) := by rw [IntKind.wrap_i64]; omega
    have Flo : Hid (lo = a ∨ n - lo = b) := Lib.hid (.inr (by omega))
    have Fhi : Hid (hi = c ∨ n - hi = c) := Lib.hid (.inr (by omega))
    have Fb : a ≤ lo ∧ n ≤ lo + b ∧ hi ≤ mid ∧ hi ≤ c ∧ lo ≤ hi := by omega
    have Hv : Hid ((mid : Int) = (hi : Int)) := Lib.hid (by omega)
  case' inr =>
    have tm : decide ((mid : Int) < (c : Int)) = false := by simp; omega
    have Flo : Hid (lo = a ∨ n - lo = b) := Lib.hid (.inl hlo)
    have Fhi : Hid (hi = c ∨ n - hi = c) := Lib.hid (.inl hhi)
    have Fb : a ≤ lo ∧ n ≤ lo + b ∧ hi ≤ mid ∧ hi ≤ c ∧ lo ≤ hi := by omega
    have Hv : Hid ((c : Int) = (hi : Int) ∧ (a : Int) = (lo : Int)) := Lib.hid ⟨by omega, by omega⟩
  all_goals
    clear hlo hhi hs hmid hn hp hu hv
    go_wp2
    go_loopw [20, 21] (fun vi vj wr => ∃ (i j : Nat), vi = .int .i64 i ∧ vj = .int .i64 j ∧ lo ≤ i ∧ i ≤ j ∧ j ≤ hi ∧ Hid (SW (encS m) w0 blk off d wr) ∧ Hid (i = lo ∨ lt' d[n - i]! d[i - 1]! = false) ∧ Hid (j = hi ∨ lt' d[n - 1 - j]! d[j]! = true)) (fun vi vj _ => (intOf vj).toNat - (intOf vi).toNat)
    case atStart =>
      refine ⟨lo, hi, ?_, ?_, Nat.le_refl _, Fb.2.2.2.2, Nat.le_refl _, S0, Lib.hid (.inl rfl), Lib.hid (.inl rfl)⟩
      · first | rfl | rw [Hv.out.2]
      · first | rw [Hv.out] | rw [Hv.out.1]
    case round =>
      clear S0
      obtain ⟨i, j, rfl, rfl, hli, hij, hjh, S1, HI, HJ⟩ := hrel
      by_cases hlt : i < j
      · obtain ⟨s2, hs2⟩ : ∃ s2, i + j = s2 := ⟨_, rfl⟩
        have es2 : (i : Int) + (j : Int) = (s2 : Int) := by omega
        have ws2 : IntKind.i64.wrap ((i : Int) + (j : Int)) = (s2 : Int) := by rw [IntKind.wrap_i64]; omega
        have us2 : IntKind.u64.wrap (s2 : Int) = (s2 : Int) := by rw [IntKind.wrap_u64]; omega
        obtain ⟨h, hh⟩ : ∃ h, s2 / 2 = h := ⟨_, rfl⟩
        have eh : (s2 : Int) / 2 = (h : Int) := by omega
        have uh : IntKind.u64.wrap (h : Int) = (h : Int) := by rw [IntKind.wrap_u64]; omega
        have wh : IntKind.i64.wrap (h : Int) = (h : Int) := by rw [IntKind.wrap_i64]; omega
        have hih : i ≤ h := by omega
        have hhj : h < j := by omega
        have hn := Hn.out
        have hp := Hp.out
        obtain ⟨q, hq⟩ : ∃ q, p - h = q := ⟨_, rfl⟩
        have eq : (p : Int) - (h : Int) = (q : Int) := by omega
        have wq : IntKind.i64.wrap ((p : Int) - (h : Int)) = (q : Int) := by rw [IntKind.wrap_i64]; omega
        have xq : IntKind.i64.wrap (q : Int) = (q : Int) := by rw [IntKind.wrap_i64]; omega
        have hqc : c ≤ q := by omega
        have hqb : q < b := by omega
        have hss : d.size = d0.size := by rw [HN.out, HS.out]
        have hha : h < d.size := by rw [HN.out]; omega
        have hqa : q < d.size := by rw [HN.out]; omega
        have l1 := S1.out.cl R hss q hqa
        have l2 := S1.out.cl R hss h hha
        have hag := K.agree d[h]! d[q]! (H3.out h q (by omega) (by omega) hqc hqb)
        obtain ⟨x, hx⟩ : ∃ x, d[q]! = x := ⟨_, rfl⟩
        obtain ⟨y, hy⟩ : ∃ y, d[h]! = y := ⟨_, rfl⟩
        have HX := Lib.hid hx
        have HY := Lib.hid hy
        have Hq1 : Hid (n - (h + 1) = q) := Lib.hid (by omega)
        have Hq2 : Hid (n - 1 - h = q) := Lib.hid (by omega)
        rw [hx] at l1 hag
        rw [hy] at l2 hag
        have hcc := S1.out.cmp HC.out hss x y
        have pa : (q : Int) < (N : Int) := by omega
        have ph : (h : Int) < (N : Int) := by omega
        clear hx hy hha hqa hss hs2 hh hn hp hq
        cases hlv : ltOf cf x y with
        | false =>
          have hv : ¬ cf x y < 0 := of_decide_eq_false hlv
          have hd : decide (cf x y < 0) = false := hlv
          have HI2 : Hid (h + 1 = lo ∨ lt' d[n - (h + 1)]! d[h + 1 - 1]! = false) := Lib.hid (.inr (by rw [Nat.add_sub_cancel, Hq1.out, HX.out, HY.out, ← hag]; exact hlv))
          clear hag HI Hq1 Hq2
          go_wp2_with fail
          go_quiet_grown (first | (go_at_fn g; refine Calls.grown_of (hcc _ _)))
          have S2 : Hid (SW (encS m) w0 blk off d (grow (wr.drewN nq) osq)) := S1.out.grown nq osq
          clear l1 l2 hcc S1
          generalize grow (wr.drewN nq) osq = w2 at S2 ⊢
          clear nq osq
          go_wp2
          go_roundw
          case rel => exact ⟨h + 1, j, by go_num, rfl, by omega, by omega, hjh, S2, HI2, HJ⟩
          case measure => simp [intOf]; omega
        | true =>
          have hv : cf x y < 0 := of_decide_eq_true hlv
          have hd : decide (cf x y < 0) = true := hlv
          have HJ2 : Hid (h = hi ∨ lt' d[n - 1 - h]! d[h]! = true) := Lib.hid (.inr (by rw [Hq2.out, HX.out, HY.out, ← hag]; exact hlv))
          clear hag HJ Hq1 Hq2
          go_wp2_with fail
          go_quiet_grown (first | (go_at_fn g; refine Calls.grown_of (hcc _ _)))
          have S2 : Hid (SW (encS m) w0 blk off d (grow (wr.drewN nq) osq)) := S1.out.grown nq osq
          clear l1 l2 hcc S1
          generalize grow (wr.drewN nq) osq = w2 at S2 ⊢
          clear nq osq
          go_wp2
          go_roundw
          case rel => exact ⟨i, h, rfl, by go_num, hli, hih, by omega, S2, HI, HJ2⟩
          case measure => simp [intOf]; omega
      · obtain rfl : i = j := by omega
        have hn := Hn.out
        obtain ⟨t, ht⟩ : ∃ t, n - i = t := ⟨_, rfl⟩
        have et : (n : Int) - (i : Int) = (t : Int) := by omega
        have wt : IntKind.i64.wrap ((n : Int) - (i : Int)) = (t : Int) := by rw [IntKind.wrap_i64]; omega
        have hai : a ≤ i := by omega
        have hic : i ≤ c := by omega
        have him : i ≤ mid := by omega
        have hct : c ≤ t := by omega
        have hmt : mid ≤ t := by omega
        have htb : t ≤ b := by omega
        have hst : i + t = mid + c := by omega
        have Glo : Hid (i = a ∨ t = b ∨ lt' d[t]! d[i - 1]! = false) := Lib.hid (by
          rcases HI.out with h | h
          · rcases Flo.out with h2 | h2
            · exact .inl (by omega)
            · exact .inr (.inl (by omega))
          · rw [ht] at h; exact .inr (.inr h))
        have Ghi : Hid (t = c ∨ i = c ∨ lt' d[t - 1]! d[i]! = true) := Lib.hid (by
          rcases HJ.out with h | h
          · rcases Fhi.out with h2 | h2
            · exact .inr (.inl (by omega))
            · exact .inl (by omega)
          · rw [show n - 1 - i = t - 1 by omega] at h; exact .inr (.inr h))
        have HPrep := Lib.hid fun (d' : Array (Fin (m + 1))) (hM : Moved (rotS i c t) d d') => sym_prep K H1.out H2.out H3.out hai hic him hct hmt htb hst Glo.out Ghi.out hM
        clear HI HJ Glo Ghi ht Flo Fhi Fb Hn Hp H1 H2 H3 hlt hij hli hjh Hv tm
        -- the rotation
        by_cases hrot : i < c ∧ c < t
        case' pos =>
          have r1 : decide ((i : Int) < (c : Int)) = true := by simp; omega
          have r2 : decide ((c : Int) < (t : Int)) = true := by simp; omega
          have CR := Lib.hid (rotate_any R (.func (.func g) #[] cb) cap i c t d wr (by rw [HN.out, HS.out]) S1.out hrot.1 hrot.2 (by rw [HN.out]; omega) (by rw [HN.out]; omega))
          rw [HN.out] at CR
          clear S1
          go_wp2_with fail
          refine CR.out.mono ?_
          rintro e w1' ⟨rfl, d1, h1, h2, h3⟩
          have T1 := Lib.hid h1
          have HP1 := Lib.hid (permIn_mono _ _ _ _ _ _ hai htb (by rw [HN.out]; exact hb) h3)
          have hs1 : d1.size = N := by rw [h2.1, HN.out]
          have HQ := Lib.hid (HPrep.out d1 h2)
          clear h1 h2 h3 CR r1 r2
        case' neg =>
          have hid0 : Moved (rotS i c t) d d := by
            by_cases h : i = c
            · subst h; exact Moved.refl _ (fun k => rotS_left i t k) d
            · have : t = c := by omega
              subst this; exact Moved.refl _ (fun k => rotS_right i t k) d
          have HQ := Lib.hid (HPrep.out d hid0)
          obtain ⟨d1, hd1⟩ : ∃ d1, d = d1 := ⟨_, rfl⟩
          have HP1 : Hid (PermIn a b d d1) := Lib.hid (by rw [← hd1]; exact permIn_refl d _ _)
          have hs1 : d1.size = N := by rw [← hd1, HN.out]
          have T1 : Hid (SW (encS m) w0 blk off d1 wr) := Lib.hid (by rw [← hd1]; exact S1.out)
          rw [hd1] at HQ
          obtain ⟨w1', hw1⟩ : ∃ w1', wr = w1' := ⟨_, rfl⟩
          rw [hw1] at T1 ⊢
          have r1 : ¬ i < c ∨ (i < c ∧ ¬ c < t) := by omega
          clear S1 hid0 hd1 hw1
          rcases r1 with r1 | ⟨r1, r2⟩
        all_goals
          clear hrot HPrep
          have PL1 := Lib.hid HQ.out.1
          have PL2 := Lib.hid HQ.out.2.1
          have PL3 := Lib.hid HQ.out.2.2.1
          have PR1 := Lib.hid HQ.out.2.2.2.1
          have PR2 := Lib.hid HQ.out.2.2.2.2.1
          have PR3 := Lib.hid HQ.out.2.2.2.2.2.1
          have PX := Lib.hid HQ.out.2.2.2.2.2.2
          clear HQ
          by_cases hl : a < i ∧ i < mid
          case' pos =>
            have l1 : decide ((a : Int) < (i : Int)) = true := by simp; omega
            have l2 : decide ((i : Int) < (mid : Int)) = true := by simp; omega
            have CL := Lib.hid (HIH.out a i mid d1 w1' (by omega) (by rw [hs1, HS.out]) T1.out hl.1 hl.2 (by rw [hs1]; omega) PL1.out PL2.out PL3.out)
            rw [hs1] at CL
            clear T1 PL1 PL2 PL3
            go_wp2_with fail
            refine CL.out.mono ?_
            rintro e w2' ⟨rfl, d2, g1, g2, g3⟩
            have T2 := Lib.hid g1
            have HPa := Lib.hid g2
            have HSa := Lib.hid g3
            have hs2 : d2.size = N := by rw [g2.1, hs1]
            clear g1 g2 g3 CL l1 l2
          case' neg =>
            have HSa' : SortedIn lt' a mid d1 := by
              by_cases h : i = a
              · rw [← h]; exact PL2.out
              · have : i = mid := by omega
                rw [← this]; exact PL1.out
            obtain ⟨d2, hd2⟩ : ∃ d2, d1 = d2 := ⟨_, rfl⟩
            have HPa : Hid (PermIn a mid d1 d2) := Lib.hid (by rw [← hd2]; exact permIn_refl d1 _ _)
            have HSa : Hid (SortedIn lt' a mid d2) := Lib.hid (by rw [← hd2]; exact HSa')
            have hs2 : d2.size = N := by rw [← hd2, hs1]
            have T2 : Hid (SW (encS m) w0 blk off d2 w1') := Lib.hid (by rw [← hd2]; exact T1.out)
            obtain ⟨w2', hw2⟩ : ∃ w2', w1' = w2' := ⟨_, rfl⟩
            rw [hw2] at T2 ⊢
            have l1 : ¬ a < i ∨ (a < i ∧ ¬ i < mid) := by omega
            clear T1 PL1 PL2 PL3 HSa' hd2 hw2
            rcases l1 with l1 | ⟨l1, l2⟩
          all_goals
            clear hl
            have QR1 : Hid (SortedIn lt' mid t d2) := Lib.hid (sortedIn_same PR1.out fun k hk1 hk2 => HPa.out.2.1 k (.inr hk1))
            have QR2 : Hid (SortedIn lt' t b d2) := Lib.hid (sortedIn_same PR2.out fun k hk1 hk2 => HPa.out.2.1 k (.inr (by omega)))
            have QR3 : Hid (OrdI idx mid t b d2) := Lib.hid fun p' q' h1 h2 h3 h4 => by
              rw [HPa.out.2.1 p' (.inr h1), HPa.out.2.1 q' (.inr (by omega))]
              exact PR3.out p' q' h1 h2 h3 h4
            have QX : Hid (Cross lt' a mid b d2) := Lib.hid (cross_perm (by rw [hs1]; exact hb) (by omega) (by omega) PX.out HPa.out)
            have QP : Hid (PermIn a b d d2) := Lib.hid (permIn_trans _ _ _ _ _ HP1.out (permIn_mono _ _ _ _ _ _ (Nat.le_refl _) (by omega) (by rw [hs1]; exact hb) HPa.out))
            clear PR1 PR2 PR3 PX HPa HP1 hs1
            by_cases hr : mid < t ∧ t < b
            · have k1 : decide ((mid : Int) < (t : Int)) = true := by simp; omega
              have k2 : decide ((t : Int) < (b : Int)) = true := by simp; omega
              have CL := Lib.hid (HIH.out mid t b d2 w2' (by omega) (by rw [hs2, HS.out]) T2.out hr.1 hr.2 (by rw [hs2]; exact hb) QR1.out QR2.out QR3.out)
              rw [hs2] at CL
              clear T2 QR1 QR2 QR3
              go_wp2_with fail
              refine CL.out.mono ?_
              rintro e w3' ⟨rfl, d3, g1, g2, g3⟩
              have T3 := Lib.hid g1
              have HPb := Lib.hid g2
              have HSb := Lib.hid g3
              clear g1 g2 g3 CL
              go_wp2
              go_end0
              refine ⟨rfl, d3, T3.out, permIn_trans _ _ _ _ _ QP.out (permIn_mono _ _ _ _ _ _ (by omega) (Nat.le_refl _) (by rw [hs2]; exact hb) HPb.out), ?_⟩
              exact sorted_cross (sortedIn_same HSa.out fun k hk1 hk2 => HPb.out.2.1 k (.inl hk2)) HSb.out (cross_perm2 (by rw [hs2]; exact hb) (by omega) (by omega) QX.out HPb.out)
            · have HSb : Hid (SortedIn lt' mid b d2) := Lib.hid (by
                by_cases h : t = mid
                · rw [← h]; exact QR2.out
                · have : t = b := by omega
                  rw [← this]; exact QR1.out)
              have HF : Hid (SortedIn lt' a b d2) := Lib.hid (sorted_cross HSa.out HSb.out QX.out)
              by_cases hr1 : mid < t
              · have k1 : decide ((mid : Int) < (t : Int)) = true := by simp; omega
                have k2 : decide ((t : Int) < (b : Int)) = false := by simp; omega
                first
                  | (go_wp2
                     done)
                  | (go_wp2
                     go_end0
                     exact ⟨rfl, d2, T2.out, QP.out, HF.out⟩)
              · have k1 : decide ((mid : Int) < (t : Int)) = false := by simp; omega
                go_wp2
                go_end0
                exact ⟨rfl, d2, T2.out, QP.out, HF.out⟩

theorem symMerge_any (K : KeyO cf lt' idx) (R : Row1 (encS m) w0 blk off d0) (hC : CmpLays1 Try.prog g cb (encS m) cf blk off d0.size w0) (eg : ∀ args w, (callFunc g args).run Try.prog w = .ok (.enter g args) w) (cap : Nat) (hsz : d0.size ≤ 1000) :
    ∀ (s a c b : Nat) (d : Array (Fin (m + 1))) (w : World), b - a ≤ s → d.size = d0.size → SW (encS m) w0 blk off d w → a < c → c < b → b ≤ d.size → SortedIn lt' a c d → SortedIn lt' c b d → OrdI idx a c b d →
      Calls Try.prog 137 #[.slice (some ⟨blk, off, none⟩) d.size cap, .int .i64 a, .int .i64 c, .int .i64 b, .func (.func g) #[] cb] w (SymPost lt' w0 blk off a b d)
  | 0, a, c, b, d, w, hs, _, _, hac, hcb, _, _, _, _ => by omega
  | s + 1, a, c, b, d, w, hs, hd, S, hac, hcb, hb, h1, h2, h3 => by
    by_cases hc : c = a + 1
    · exact symLeft_any K R eg hC cap a c b d w hd S hc hcb hb (by omega) h2 h3
    · by_cases hc2 : b = c + 1
      · exact symRight_any K R eg hC cap a c b d w hd S (by omega) hc2 hb (by omega) h1 h3
      · exact symWhole_any K R hC eg cap a c b d w hd S (by omega) (by omega) hb (by omega) h1 h2 h3 fun a' c' b' d' w' hlt hd' S' hac' hcb' hb' h1' h2' h3' => symMerge_any K R hC eg cap hsz s a' c' b' d' w' (by omega) hd' S' hac' hcb' hb' h1' h2' h3'
end

end Go.Proofs.Ytoehgcakfblblaa
