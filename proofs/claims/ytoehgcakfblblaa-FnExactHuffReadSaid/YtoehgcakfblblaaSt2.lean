/- The library's symMerge: one element put into its place. -/
import Derived.Test.YtoehgcakfblblaaSt1
namespace Go.Proofs.Ytoehgcakfblblaa
open Go.RowKit Go.Sort Go.Shelf Go.Lib
set_option maxRecDepth 100000

section
variable {m blk off g : Nat} {cb : Array Value} {w0 : World} {d0 : Array (Fin (m + 1))} {cf : Fin (m + 1) → Fin (m + 1) → Int} {lt' : Fin (m + 1) → Fin (m + 1) → Bool} {idx : Fin (m + 1) → Nat}

def SymPost (lt' : Fin (m + 1) → Fin (m + 1) → Bool) (w0 : World) (blk off a b : Nat) (d : Array (Fin (m + 1))) (e : Ending) (w' : World) : Prop :=
  e = .returned (.tuple #[]) ∧ ∃ d', SW (encS m) w0 blk off d' w' ∧ PermIn a b d d' ∧ SortedIn lt' a b d'

theorem half_int (x : Nat) (hx : x ≤ 100000) : (x : Int) / 2 = ((x / 2 : Nat) : Int) := by omega

set_option maxHeartbeats 1600000 in
theorem symLeft_any (K : KeyO cf lt' idx) (R : Row1 (encS m) w0 blk off d0) (eg : ∀ args w, (callFunc g args).run Try.prog w = .ok (.enter g args) w) (hC : CmpLays1 Try.prog g cb (encS m) cf blk off d0.size w0)
    (cap a c b : Nat) (d : Array (Fin (m + 1))) (w : World) (hs : d.size = d0.size) (S : SW (encS m) w0 blk off d w) (hc : c = a + 1) (hcb : c < b) (hb : b ≤ d.size) (hsz : d.size ≤ 1000) (h2 : SortedIn lt' c b d) (h3 : OrdI idx a c b d) :
    Calls Try.prog 137 #[.slice (some ⟨blk, off, none⟩) d.size cap, .int .i64 a, .int .i64 c, .int .i64 b, .func (.func g) #[] cb] w (SymPost lt' w0 blk off a b d) := by
  have mixed : Try.prog.follows .mixedOrders = true := by kernel_rfl
  have S0 : Hid (SW (encS m) w0 blk off d w) := S
  have HC := Lib.hid hC
  have H2 := Lib.hid h2
  have H3 := Lib.hid h3
  clear S hC h2 h3
  obtain ⟨N, hN⟩ : ∃ N, d.size = N := ⟨_, rfl⟩
  have HN := Lib.hid hN
  have HS : Hid (N = d0.size) := Lib.hid (by omega)
  rw [hN] at hb hsz
  rw [hN]
  clear hN hs
  have e1 : (c : Int) - (a : Int) = 1 := by omega
  have w1 : IntKind.i64.wrap ((c : Int) - (a : Int)) = 1 := by rw [e1]; rfl
  have Hc := Lib.hid hc
  clear hc
  go_enter Try.func137, Try.ntmps137
  go_wp2
  go_loopw [10, 11] (fun vi vj wr => ∃ (i j : Nat), vi = .int .i64 i ∧ vj = .int .i64 j ∧ c ≤ i ∧ i ≤ j ∧ j ≤ b ∧ Hid (SW (encS m) w0 blk off d wr) ∧ Hid (i = c ∨ lt' d[i - 1]! d[a]! = true) ∧ Hid (j = b ∨ lt' d[j]! d[a]! = false)) (fun vi vj _ => (intOf vj).toNat - (intOf vi).toNat)
  case atStart => exact ⟨c, b, rfl, rfl, Nat.le_refl _, by omega, Nat.le_refl _, S0, Lib.hid (.inl rfl), Lib.hid (.inl rfl)⟩
  case round =>
    clear S0
    obtain ⟨i, j, rfl, rfl, hci, hij, hjb, S1, HI, HJ⟩ := hrel
    by_cases hlt : i < j
    · obtain ⟨s, hs⟩ : ∃ s, i + j = s := ⟨_, rfl⟩
      have es : (i : Int) + (j : Int) = (s : Int) := by omega
      have ws : IntKind.i64.wrap ((i : Int) + (j : Int)) = (s : Int) := by rw [IntKind.wrap_i64]; omega
      have us : IntKind.u64.wrap (s : Int) = (s : Int) := by rw [IntKind.wrap_u64]; omega
      obtain ⟨h, hh⟩ : ∃ h, s / 2 = h := ⟨_, rfl⟩
      have eh : (s : Int) / 2 = (h : Int) := by omega
      have uh : IntKind.u64.wrap (h : Int) = (h : Int) := by rw [IntKind.wrap_u64]; omega
      have wh : IntKind.i64.wrap (h : Int) = (h : Int) := by rw [IntKind.wrap_i64]; omega
      have hih : i ≤ h := by omega
      have hhj : h < j := by omega
      have hss : d.size = d0.size := by rw [HN.out, HS.out]
      have hha : h < d.size := by rw [HN.out]; omega
      have haa : a < d.size := by rw [HN.out]; have := Hc.out; omega
      have l1 := S1.out.cl R hss h hha
      have l2 := S1.out.cl R hss a haa
      have hag := K.agree d[a]! d[h]! (H3.out a h (Nat.le_refl _) (by have := Hc.out; omega) (by omega) (by omega))
      obtain ⟨x, hx⟩ : ∃ x, d[h]! = x := ⟨_, rfl⟩
      obtain ⟨y, hy⟩ : ∃ y, d[a]! = y := ⟨_, rfl⟩
      have HX := Lib.hid hx
      have HY := Lib.hid hy
      rw [hx] at l1 hag
      rw [hy] at l2 hag
      have hcc := S1.out.cmp HC.out hss x y
      have pa : (a : Int) < (N : Int) := by have := Hc.out; omega
      have ph : (h : Int) < (N : Int) := by omega
      clear hx hy hha haa hss hs hh
      cases hlv : ltOf cf x y with
      | true =>
        have hv : cf x y < 0 := of_decide_eq_true hlv
        have hd : decide (cf x y < 0) = true := hlv
        have HI2 : Hid (h + 1 = c ∨ lt' d[h + 1 - 1]! d[a]! = true) := Lib.hid (.inr (by rw [Nat.add_sub_cancel, HX.out, HY.out, ← hag]; exact hlv))
        clear hag HI
        go_wp2_with fail
        go_quiet_grown (first | (go_at_fn g; refine Calls.grown_of (hcc _ _)))
        have S2 : Hid (SW (encS m) w0 blk off d (grow (wr.drewN nq) osq)) := S1.out.grown nq osq
        clear l1 l2 hcc S1
        generalize grow (wr.drewN nq) osq = w2 at S2 ⊢
        clear nq osq
        go_wp2
        go_roundw
        case rel => exact ⟨h + 1, j, by go_num, rfl, by omega, by omega, hjb, S2, HI2, HJ⟩
        case measure => simp [intOf]; omega
      | false =>
        have hv : ¬ cf x y < 0 := of_decide_eq_false hlv
        have hd : decide (cf x y < 0) = false := hlv
        have HJ2 : Hid (h = b ∨ lt' d[h]! d[a]! = false) := Lib.hid (.inr (by rw [HX.out, HY.out, ← hag]; exact hlv))
        clear hag HJ
        go_wp2_with fail
        go_quiet_grown (first | (go_at_fn g; refine Calls.grown_of (hcc _ _)))
        have S2 : Hid (SW (encS m) w0 blk off d (grow (wr.drewN nq) osq)) := S1.out.grown nq osq
        clear l1 l2 hcc S1
        generalize grow (wr.drewN nq) osq = w2 at S2 ⊢
        clear nq osq
        go_wp2
        go_roundw
        case rel => exact ⟨i, h, rfl, by go_num, hci, hih, by omega, S2, HI, HJ2⟩
        case measure => simp [intOf]; omega
    · obtain rfl : i = j := by omega
      obtain ⟨i1, hi1⟩ : ∃ i1, i - 1 = i1 := ⟨_, rfl⟩
      have hci1 : a ≤ i1 := by have := Hc.out; omega
      have ei : (i : Int) - 1 = (i1 : Int) := by have := Hc.out; omega
      have wi : IntKind.i64.wrap ((i : Int) - 1) = (i1 : Int) := by rw [IntKind.wrap_i64]; omega
      have Hi1 : Hid (i1 + 1 = i) := Lib.hid (by have := Hc.out; omega)
      clear hi1 hij hlt
      go_wp2
      go_loopw [13] (fun vk wr => ∃ (k : Nat) (dk : Array (Fin (m + 1))), vk = .int .i64 k ∧ a ≤ k ∧ k ≤ i1 ∧ Hid (SW (encS m) w0 blk off dk wr) ∧ Hid (Moved (rotS a (a + 1) (k + 1)) d dk) ∧ Hid (PermIn a b d dk)) (fun vk _ => i1 - (intOf vk).toNat)
      case atStart => exact ⟨a, d, rfl, Nat.le_refl _, hci1, S1, Lib.hid (Moved.refl _ (fun k => rotS_right a (a + 1) k) d), Lib.hid (permIn_refl d _ _)⟩
      case round =>
        clear S1
        obtain ⟨k, dk, rfl, hak, hki, S1, HM, HP⟩ := hrel
        by_cases hlt : k < i1
        · have hkb : k + 1 < b := by have := Hi1.out; omega
          have hsk : dk.size = N := by rw [HM.out.1, HN.out]
          obtain ⟨p, hp⟩ : ∃ p, k + 1 = p := ⟨_, rfl⟩
          have ep : (k : Int) + 1 = (p : Int) := by omega
          have wp : IntKind.i64.wrap ((k : Int) + 1) = (p : Int) := by rw [IntKind.wrap_i64]; omega
          have xp : IntKind.i64.wrap (p : Int) = (p : Int) := by rw [IntKind.wrap_i64]; omega
          have bk : (k : Int) < (N : Int) := by omega
          have bp : (p : Int) < (N : Int) := by omega
          have hss : dk.size = d0.size := by rw [hsk, HS.out]
          have c1 := S1.out.c1 R hss k (by omega)
          have c2 := S1.out.c1 R hss p (by omega)
          have f1 := S1.out.f1 R hss k (by omega)
          have f2 := S1.out.f1 R hss p (by omega)
          obtain ⟨u, c3⟩ := S1.out.c2 R hss k p (by omega) (by omega) (encS m dk[p]!)
          have HM2 : Hid (Moved (rotS a (a + 1) (p + 1)) d (swp dk k p)) := Lib.hid (by rw [← hp]; exact HM.out.swp (by rw [HN.out]; omega) (by rw [HN.out]; omega) fun q => rotS_up a k q hak)
          have HP2 : Hid (PermIn a b d (swp dk k p)) := Lib.hid (permIn_trans _ _ _ _ _ HP.out (swp_permIn dk a b k p hak (by omega) (by omega) (by omega) (by omega)))
          obtain ⟨x, hx⟩ : ∃ x : Value, encS m dk[k]! = x := ⟨_, rfl⟩
          obtain ⟨y, hy⟩ : ∃ y : Value, encS m dk[p]! = y := ⟨_, rfl⟩
          have S2 : Hid (SW (encS m) w0 blk off (swp dk k p) ((wr.setCell ⟨blk, off + k, none⟩ y).setCell ⟨blk, off + p, none⟩ x).drew) := Lib.hid (by rw [← hx, ← hy]; exact S1.out.swapped R k p (by omega) (by omega))
          unfold encS at hx hy c1 c2 c3
          subst hx hy
          clear S1 hss
          go_wp2_with fail
          go_big_region_o
          clear c1 c2 c3 f1 f2
          generalize ((wr.setCell ⟨blk, off + k, none⟩ _).setCell ⟨blk, off + p, none⟩ _).drew = w3 at S2 ⊢
          go_wp2
          go_roundw
          case rel => exact ⟨p, swp dk k p, by first | rfl | go_num, by omega, by omega, S2, HM2, HP2⟩
          case measure => simp [intOf]; omega
        · obtain rfl : k = i1 := by omega
          have HF : Hid (SortedIn lt' a b dk) := Lib.hid (by
            have hc := Hc.out
            have hi := Hi1.out
            subst hc
            rw [hi] at HM
            exact put_left K H2.out hci hjb HI.out HJ.out HM.out)
          go_wp2
          go_end0
          exact ⟨rfl, dk, S1.out, HP.out, HF.out⟩

set_option maxHeartbeats 1600000 in
theorem symRight_any (K : KeyO cf lt' idx) (R : Row1 (encS m) w0 blk off d0) (eg : ∀ args w, (callFunc g args).run Try.prog w = .ok (.enter g args) w) (hC : CmpLays1 Try.prog g cb (encS m) cf blk off d0.size w0)
    (cap a c b : Nat) (d : Array (Fin (m + 1))) (w : World) (hs : d.size = d0.size) (S : SW (encS m) w0 blk off d w) (hac : a + 1 < c) (hcb : b = c + 1) (hb : b ≤ d.size) (hsz : d.size ≤ 1000) (h2 : SortedIn lt' a c d) (h3 : OrdI idx a c b d) :
    Calls Try.prog 137 #[.slice (some ⟨blk, off, none⟩) d.size cap, .int .i64 a, .int .i64 c, .int .i64 b, .func (.func g) #[] cb] w (SymPost lt' w0 blk off a b d) := by
  have mixed : Try.prog.follows .mixedOrders = true := by kernel_rfl
  have S0 : Hid (SW (encS m) w0 blk off d w) := S
  have HC := Lib.hid hC
  have H2 := Lib.hid h2
  have H3 := Lib.hid h3
  clear S hC h2 h3
  obtain ⟨N, hN⟩ : ∃ N, d.size = N := ⟨_, rfl⟩
  have HN := Lib.hid hN
  have HS : Hid (N = d0.size) := Lib.hid (by omega)
  rw [hN] at hb hsz
  rw [hN]
  clear hN hs
  obtain ⟨u, hu⟩ : ∃ u, c - a = u := ⟨_, rfl⟩
  have e0 : (c : Int) - (a : Int) = (u : Int) := by omega
  have w0' : IntKind.i64.wrap ((c : Int) - (a : Int)) = (u : Int) := by rw [IntKind.wrap_i64]; omega
  have t0 : ((u : Int) == 1) = false := by rw [beq_eq_false_iff_ne]; omega
  have e1 : (b : Int) - (c : Int) = 1 := by omega
  have w1 : IntKind.i64.wrap ((b : Int) - (c : Int)) = 1 := by rw [e1]; rfl
  have Hc := Lib.hid hcb
  have hcN : (c : Int) < (N : Int) := by omega
  have hcN2 : c < N := by omega
  have Hu := Lib.hid hu
  clear hcb hu
  go_enter Try.func137, Try.ntmps137
  go_wp2
  go_loopw [14, 15] (fun vi vj wr => ∃ (i j : Nat), vi = .int .i64 i ∧ vj = .int .i64 j ∧ a ≤ i ∧ i ≤ j ∧ j ≤ c ∧ Hid (SW (encS m) w0 blk off d wr) ∧ Hid (i = a ∨ lt' d[c]! d[i - 1]! = false) ∧ Hid (j = c ∨ lt' d[c]! d[j]! = true)) (fun vi vj _ => (intOf vj).toNat - (intOf vi).toNat)
  case atStart => exact ⟨a, c, rfl, rfl, Nat.le_refl _, by omega, Nat.le_refl _, S0, Lib.hid (.inl rfl), Lib.hid (.inl rfl)⟩
  case round =>
    clear S0
    obtain ⟨i, j, rfl, rfl, hci, hij, hjb, S1, HI, HJ⟩ := hrel
    by_cases hlt : i < j
    · obtain ⟨s, hs⟩ : ∃ s, i + j = s := ⟨_, rfl⟩
      have es : (i : Int) + (j : Int) = (s : Int) := by omega
      have ws : IntKind.i64.wrap ((i : Int) + (j : Int)) = (s : Int) := by rw [IntKind.wrap_i64]; omega
      have us : IntKind.u64.wrap (s : Int) = (s : Int) := by rw [IntKind.wrap_u64]; omega
      obtain ⟨h, hh⟩ : ∃ h, s / 2 = h := ⟨_, rfl⟩
      have eh : (s : Int) / 2 = (h : Int) := by omega
      have uh : IntKind.u64.wrap (h : Int) = (h : Int) := by rw [IntKind.wrap_u64]; omega
      have wh : IntKind.i64.wrap (h : Int) = (h : Int) := by rw [IntKind.wrap_i64]; omega
      have hih : i ≤ h := by omega
      have hhj : h < j := by omega
      have hss : d.size = d0.size := by rw [HN.out, HS.out]
      have hha : h < d.size := by rw [HN.out]; omega
      have haa : c < d.size := by rw [HN.out]; omega
      have l1 := S1.out.cl R hss h hha
      have l2 := S1.out.cl R hss c haa
      have hag := K.agree d[h]! d[c]! (H3.out h c (by omega) (by omega) (Nat.le_refl _) (by have := Hc.out; omega))
      obtain ⟨y, hy⟩ : ∃ y, d[h]! = y := ⟨_, rfl⟩
      obtain ⟨x, hx⟩ : ∃ x, d[c]! = x := ⟨_, rfl⟩
      have HX := Lib.hid hx
      have HY := Lib.hid hy
      rw [hy] at l1 hag
      rw [hx] at l2 hag
      have hcc := S1.out.cmp HC.out hss x y
      have ph : (h : Int) < (N : Int) := by omega
      clear hx hy hha haa hss hs hh
      cases hlv : ltOf cf x y with
      | false =>
        have hv : ¬ cf x y < 0 := of_decide_eq_false hlv
        have hd : decide (cf x y < 0) = false := hlv
        have HI2 : Hid (h + 1 = a ∨ lt' d[c]! d[h + 1 - 1]! = false) := Lib.hid (.inr (by rw [Nat.add_sub_cancel, HX.out, HY.out, ← hag]; exact hlv))
        clear hag HI
        go_wp2_with fail
        go_quiet_grown (first | (go_at_fn g; refine Calls.grown_of (hcc _ _)))
        have S2 : Hid (SW (encS m) w0 blk off d (grow (wr.drewN nq) osq)) := S1.out.grown nq osq
        clear l1 l2 hcc S1
        generalize grow (wr.drewN nq) osq = w2 at S2 ⊢
        clear nq osq
        go_wp2
        go_roundw
        case rel => exact ⟨h + 1, j, by go_num, rfl, by omega, by omega, hjb, S2, HI2, HJ⟩
        case measure => simp [intOf]; omega
      | true =>
        have hv : cf x y < 0 := of_decide_eq_true hlv
        have hd : decide (cf x y < 0) = true := hlv
        have HJ2 : Hid (h = c ∨ lt' d[c]! d[h]! = true) := Lib.hid (.inr (by rw [HX.out, HY.out, ← hag]; exact hlv))
        clear hag HJ
        go_wp2_with fail
        go_quiet_grown (first | (go_at_fn g; refine Calls.grown_of (hcc _ _)))
        have S2 : Hid (SW (encS m) w0 blk off d (grow (wr.drewN nq) osq)) := S1.out.grown nq osq
        clear l1 l2 hcc S1
        generalize grow (wr.drewN nq) osq = w2 at S2 ⊢
        clear nq osq
        go_wp2
        go_roundw
        case rel => exact ⟨i, h, rfl, by go_num, hci, hih, by omega, S2, HI, HJ2⟩
        case measure => simp [intOf]; omega
    · obtain rfl : i = j := by omega
      clear hij hlt
      go_wp2
      go_loopw [17] (fun vk wr => ∃ (k : Nat) (dk : Array (Fin (m + 1))), vk = .int .i64 k ∧ i ≤ k ∧ k ≤ c ∧ Hid (SW (encS m) w0 blk off dk wr) ∧ Hid (Moved (rotS k c (c + 1)) d dk) ∧ Hid (PermIn a b d dk)) (fun vk _ => (intOf vk).toNat)
      case atStart => exact ⟨c, d, rfl, hjb, Nat.le_refl _, S1, Lib.hid (Moved.refl _ (fun k => rotS_left c (c + 1) k) d), Lib.hid (permIn_refl d _ _)⟩
      case round =>
        clear S1
        obtain ⟨k, dk, rfl, hak, hki, S1, HM, HP⟩ := hrel
        by_cases hlt : i < k
        · have hbc := Hc.out
          have hsk : dk.size = N := by rw [HM.out.1, HN.out]
          obtain ⟨p, hp⟩ : ∃ p, k - 1 = p := ⟨_, rfl⟩
          have hk : k = p + 1 := by omega
          have ep : (k : Int) - 1 = (p : Int) := by omega
          have wp : IntKind.i64.wrap ((k : Int) - 1) = (p : Int) := by rw [IntKind.wrap_i64]; omega
          have xp : IntKind.i64.wrap (p : Int) = (p : Int) := by rw [IntKind.wrap_i64]; omega
          have bk : (k : Int) < (N : Int) := by omega
          have bp : (p : Int) < (N : Int) := by omega
          have hss : dk.size = d0.size := by rw [hsk, HS.out]
          have c1 := S1.out.c1 R hss k (by omega)
          have c2 := S1.out.c1 R hss p (by omega)
          have f1 := S1.out.f1 R hss k (by omega)
          have f2 := S1.out.f1 R hss p (by omega)
          obtain ⟨u', c3⟩ := S1.out.c2 R hss k p (by omega) (by omega) (encS m dk[p]!)
          have HM2 : Hid (Moved (rotS p c (c + 1)) d (swp dk k p)) := Lib.hid (by
            rw [hk] at HM ⊢
            exact HM.out.swp (by rw [HN.out]; omega) (by rw [HN.out]; omega) fun q => rotS_down p c q (by omega))
          have HP2 : Hid (PermIn a b d (swp dk k p)) := Lib.hid (permIn_trans _ _ _ _ _ HP.out (swp_permIn dk a b k p (by omega) (by omega) (by omega) (by omega) (by omega)))
          obtain ⟨x, hx⟩ : ∃ x : Value, encS m dk[k]! = x := ⟨_, rfl⟩
          obtain ⟨y, hy⟩ : ∃ y : Value, encS m dk[p]! = y := ⟨_, rfl⟩
          have S2 : Hid (SW (encS m) w0 blk off (swp dk k p) ((wr.setCell ⟨blk, off + k, none⟩ y).setCell ⟨blk, off + p, none⟩ x).drew) := Lib.hid (by rw [← hx, ← hy]; exact S1.out.swapped R k p (by omega) (by omega))
          unfold encS at hx hy c1 c2 c3
          subst hx hy
          have hpi : i ≤ p := by omega
          have hpc : p ≤ c := by omega
          clear S1 hss hk hp hbc
          go_wp2_with fail
          go_big_region_o
          clear c1 c2 c3 f1 f2
          generalize ((wr.setCell ⟨blk, off + k, none⟩ _).setCell ⟨blk, off + p, none⟩ _).drew = w3 at S2 ⊢
          go_wp2
          go_roundw
          case rel => exact ⟨p, swp dk k p, by first | rfl | go_num, hpi, hpc, S2, HM2, HP2⟩
          case measure => simp [intOf]; omega
        · obtain rfl : k = i := by omega
          have HF : Hid (SortedIn lt' a b dk) := Lib.hid (by
            rw [Hc.out]
            exact put_right K H2.out hci hjb HI.out HJ.out HM.out)
          go_wp2
          go_end0
          exact ⟨rfl, dk, S1.out, HP.out, HF.out⟩

end

end Go.Proofs.Ytoehgcakfblblaa
