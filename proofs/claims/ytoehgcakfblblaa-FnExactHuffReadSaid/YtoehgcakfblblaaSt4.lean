/- The library's stable sort, over rows of small numbers that stand in rising order of idx. -/
import Derived.Test.YtoehgcakfblblaaSt3
import Derived.Test.YtoehgcakfblblaaShelfIns
namespace Go.Proofs.Ytoehgcakfblblaa
open Go.RowKit Go.Sort Go.Shelf Go.Lib
set_option maxRecDepth 100000

theorem blk_div {bs t k : Nat} (h1 : bs * t ≤ k) (h2 : k < bs * t + bs) : k / bs = t :=
  Nat.div_eq_of_lt_le (by rw [Nat.mul_comm]; exact h1) (by rw [Nat.add_mul, Nat.one_mul, Nat.mul_comm]; exact h2)

section
variable {m blk off g : Nat} {cb : Array Value} {w0 : World} {d0 : Array (Fin (m + 1))} {cf : Fin (m + 1) → Fin (m + 1) → Int} {lt' : Fin (m + 1) → Fin (m + 1) → Bool} {idx : Fin (m + 1) → Nat}

/-- The blocks of bs that begin below hi are sorted. -/
def LvlS (lt' : Fin (m + 1) → Fin (m + 1) → Bool) (bs n hi : Nat) (d : Array (Fin (m + 1))) : Prop := ∀ t, bs * t < hi → SortedIn lt' (bs * t) (min (bs * t + bs) n) d
theorem LvlS.add {bs n t : Nat} {d d' : Array (Fin (m + 1))} (h : LvlS lt' bs n (bs * t) d) (hP : PermIn (bs * t) (min (bs * t + bs) n) d d') (hS : SortedIn lt' (bs * t) (min (bs * t + bs) n) d') : LvlS lt' bs n (bs * (t + 1)) d' := by
  intro t' ht'
  by_cases e : t' = t
  · subst e; exact hS
  · have hlt : t' < t + 1 := Nat.lt_of_mul_lt_mul_left ht'
    have h1 : bs * (t' + 1) ≤ bs * t := Nat.mul_le_mul_left bs (by omega)
    rw [Nat.mul_succ] at h1
    have h2 : 0 < bs := by
      rcases Nat.eq_zero_or_pos bs with h0 | h0
      · subst h0; simp at ht'
      · exact h0
    exact sortedIn_same (h t' (by omega)) fun k hk1 hk2 => hP.2.1 k (.inl (by omega))

set_option maxHeartbeats 4000000 in
theorem stable_any (K : KeyO cf lt' idx) (R : Row1 (encS m) w0 blk off d0) (hC : CmpLays1 Try.prog g cb (encS m) cf blk off d0.size w0) (eg : ∀ args w, (callFunc g args).run Try.prog w = .ok (.enter g args) w)
    (cap : Nat) (d : Array (Fin (m + 1))) (w : World) (hs : d.size = d0.size) (S : SW (encS m) w0 blk off d w) (hsz : d.size ≤ 300) (hasc : ∀ p q, p < q → q < d.size → idx d[p]! < idx d[q]!) :
    Calls Try.prog 130 #[.slice (some ⟨blk, off, none⟩) d.size cap, .int .i64 d.size, .func (.func g) #[] cb] w (SymPost lt' w0 blk off 0 d.size d) := by
  have S0 : Hid (SW (encS m) w0 blk off d w) := S
  have HA := Lib.hid hasc
  have HIn : Hid (∀ (a b : Nat) (dk : Array (Fin (m + 1))) (W : World), dk.size = d.size → SW (encS m) w0 blk off dk W → a ≤ b → b ≤ d.size → Calls Try.prog 136 #[.slice (some ⟨blk, off, none⟩) dk.size cap, .int .i64 a, .int .i64 b, .func (.func g) #[] cb] W fun e w' => e = .returned (.tuple #[]) ∧ SW (encS m) w0 blk off (insertionSort (ltOf cf) dk a b) w') := Lib.hid fun a b dk W hk h hab hb => Any.insertionSortCmpFunc_s Try.laysSlF20 (encS m) cf g cb blk off cap a b d0 dk w0 W eg hC R (by omega) h hab (by omega) (by omega)
  have HSy := Lib.hid fun (a c b : Nat) (dk : Array (Fin (m + 1))) (W : World) (hk : dk.size = d.size) (h : SW (encS m) w0 blk off dk W) (hac : a < c) (hcb : c < b) (hb : b ≤ d.size) => symMerge_any K R hC eg cap (by omega) (b - a) a c b dk W (Nat.le_refl _) (by omega) h hac hcb (by omega)
  obtain ⟨n, hN⟩ : ∃ n, d.size = n := ⟨_, rfl⟩
  have HN := Lib.hid hN
  rw [hN] at hsz HA HIn HSy
  rw [hN]
  have HPr : Hid (PermIn 0 n d d) := Lib.hid (permIn_refl d _ _)
  have HO0 : Hid (OrdB idx 20 n d) := Lib.hid fun p q hp hq hpq => HA.out p q (by
    rcases Nat.lt_or_ge p q with h | h
    · exact h
    · have := Nat.div_le_div_right (c := 20) h; omega) hq
  clear hN hs S hasc hC
  go_enter Try.func130, Try.ntmps130
  go_wp2
  go_loopw [7, 8] (fun va vb wr => ∃ (t a b : Nat) (dk : Array (Fin (m + 1))), va = .int .i64 a ∧ vb = .int .i64 b ∧ Hid (a = 20 * t) ∧ Hid (b = a + 20) ∧ a ≤ n ∧ Hid (SW (encS m) w0 blk off dk wr) ∧ dk.size = n ∧ Hid (PermIn 0 n d dk) ∧ Hid (LvlS lt' 20 n (20 * t) dk) ∧ Hid (OrdB idx 20 n dk) ∧ Hid (∀ k, a ≤ k → dk[k]! = d[k]!)) (fun va _ _ => n + 20 - (intOf va).toNat)
  case atStart => exact ⟨0, 0, 20, d, rfl, rfl, Lib.hid rfl, Lib.hid rfl, Nat.zero_le _, S0, HN.out, HPr, Lib.hid fun t ht => by omega, HO0, Lib.hid fun k _ => rfl⟩
  case round =>
    clear S0 HPr HO0
    obtain ⟨t, a, b, dk, rfl, rfl, Ha, Hb, han, S1, hsk, HP, HL, HO, HE⟩ := hrel
    have ha := Ha.out
    have hb := Hb.out
    by_cases hlt : b ≤ n
    · have C1 := Lib.hid (HIn.out a b dk wr hsk S1.out (by omega) hlt)
      rw [hsk] at C1
      have hst := ins_stable K a b dk (by omega) (by omega) fun p q h1 h2 h3 => by
        rw [HE.out p h1, HE.out q (by omega)]
        exact HA.out p q h2 (by omega)
      obtain ⟨d', hd'⟩ : ∃ d', insertionSort (ltOf cf) dk a b = d' := ⟨_, rfl⟩
      rw [hd'] at hst C1
      have hmin : min (20 * t + 20) n = b := by omega
      have hs' : d'.size = n := by rw [hst.1.1, hsk]
      have HP2 : Hid (PermIn 0 n d d') := Lib.hid (permIn_trans _ _ _ _ _ HP.out (permIn_mono _ _ _ _ _ _ (by omega) hlt (by omega) hst.1))
      have HL2 : Hid (LvlS lt' 20 n (20 * (t + 1)) d') := Lib.hid (HL.out.add (by rw [hmin, ← ha]; exact hst.1) (by rw [hmin, ← ha]; exact hst.2))
      have HO2 : Hid (OrdB idx 20 n d') := Lib.hid (HO.out.perm (by omega) hlt (fun k h1 h2 => blk_div (t := t) (by omega) (by omega)) hst.1)
      have HE2 : Hid (∀ k, b ≤ k → d'[k]! = d[k]!) := Lib.hid fun k hk => (hst.1.2.1 k (.inr hk)).trans (HE.out k (by omega))
      have Ha2 : Hid (b = 20 * (t + 1)) := Lib.hid (by omega)
      have hmeas : n + 20 - b < n + 20 - a := by omega
      have eb : (b : Int) + 20 = ((b + 20 : Nat) : Int) := by omega
      have wb : IntKind.i64.wrap ((b : Int) + 20) = (b : Int) + 20 := by rw [IntKind.wrap_i64]; omega
      clear hst hd' HP HL HO HE S1 ha hb hmin eb
      go_wp2_with fail
      refine C1.out.mono ?_
      rintro e w2 ⟨rfl, h1⟩
      have S2 := Lib.hid h1
      clear h1 C1
      go_wp2
      go_roundw
      case rel => exact ⟨t + 1, b, b + 20, d', by first | rfl | go_num, by go_num, Ha2, Lib.hid rfl, hlt, S2, hs', HP2, HL2, HO2, HE2⟩
      case measure => simp [intOf]; omega
    · have C1 := Lib.hid (HIn.out a n dk wr hsk S1.out han (Nat.le_refl _))
      rw [hsk] at C1
      have hst := ins_stable K a n dk han (by omega) fun p q h1 h2 h3 => by
        rw [HE.out p h1, HE.out q (by omega)]
        exact HA.out p q h2 h3
      obtain ⟨d', hd'⟩ : ∃ d', insertionSort (ltOf cf) dk a n = d' := ⟨_, rfl⟩
      rw [hd'] at hst C1
      have hmin : min (20 * t + 20) n = n := by omega
      have hs' : d'.size = n := by rw [hst.1.1, hsk]
      have HP2 : Hid (PermIn 0 n d d') := Lib.hid (permIn_trans _ _ _ _ _ HP.out (permIn_mono _ _ _ _ _ _ (by omega) (Nat.le_refl _) (by omega) hst.1))
      have HL2 : Hid (LvlS lt' 20 n n d') := Lib.hid fun t' ht' => by
        have h := HL.out.add (by rw [hmin, ← ha]; exact hst.1) (by rw [hmin, ← ha]; exact hst.2)
        exact h t' (by omega)
      have HO2 : Hid (OrdB idx 20 n d') := Lib.hid (HO.out.perm (by omega) (Nat.le_refl _) (fun k h1 h2 => blk_div (t := t) (by omega) (by omega)) hst.1)
      clear hst hd' HP HL HO HE S1 ha hb Ha Hb han hmin
      go_wp2_with fail
      refine C1.out.mono ?_
      rintro e w2 ⟨rfl, h1⟩
      have S2 := Lib.hid h1
      clear h1 C1 HIn
      go_wp2
      go_loopw [6] (fun v6 wr => ∃ (bs : Nat) (dk : Array (Fin (m + 1))), v6 = .int .i64 bs ∧ 20 ≤ bs ∧ bs ≤ 600 ∧ Hid (SW (encS m) w0 blk off dk wr) ∧ dk.size = n ∧ Hid (PermIn 0 n d dk) ∧ Hid (LvlS lt' bs n n dk) ∧ Hid (OrdB idx bs n dk)) (fun v6 _ => n - (intOf v6).toNat)
      case atStart => exact ⟨20, d', rfl, by omega, by omega, S2, hs', HP2, HL2, HO2⟩
      case round =>
        clear S2 HP2 HL2 HO2 hs'
        obtain ⟨bs, dk, rfl, hb20, hb6, S1, hsk, HP, HL, HO⟩ := hrel
        by_cases hbn : bs < n
        · obtain ⟨b2, hb2⟩ : ∃ b2, bs * 2 = b2 := ⟨_, rfl⟩
          have e2 : (2 : Int) * (bs : Int) = (b2 : Int) := by omega
          have w2 : IntKind.i64.wrap ((2 : Int) * (bs : Int)) = (b2 : Int) := by rw [IntKind.wrap_i64]; omega
          have e3 : (bs : Int) * 2 = (b2 : Int) := by omega
          have w3 : IntKind.i64.wrap ((bs : Int) * 2) = (b2 : Int) := by rw [IntKind.wrap_i64]; omega
          have x2 : IntKind.i64.wrap (b2 : Int) = (b2 : Int) := by rw [IntKind.wrap_i64]; omega
          have HO2 : Hid (OrdB idx b2 n dk) := Lib.hid (by rw [← hb2]; exact HO.out.double)
          have Hb2 := Lib.hid hb2
          clear hb2
          go_wp2
          go_loopw [7, 8] (fun va vb wr => ∃ (t a b : Nat) (e : Array (Fin (m + 1))), va = .int .i64 a ∧ vb = .int .i64 b ∧ Hid (a = b2 * t) ∧ Hid (b = a + b2) ∧ a ≤ n ∧ Hid (SW (encS m) w0 blk off e wr) ∧ e.size = n ∧ Hid (PermIn 0 n d e) ∧ Hid (LvlS lt' b2 n (b2 * t) e) ∧ Hid (OrdB idx b2 n e) ∧ Hid (∀ k, a ≤ k → e[k]! = dk[k]!)) (fun va _ _ => n + b2 - (intOf va).toNat)
          case atStart => exact ⟨0, 0, b2, dk, rfl, rfl, Lib.hid (by simp), Lib.hid (by omega), Nat.zero_le _, S1, hsk, HP, Lib.hid fun t ht => by simp at ht, HO2, Lib.hid fun k _ => rfl⟩
          case round =>
            clear S1 HP HO2
            obtain ⟨t, a, b, e, rfl, rfl, Ha, Hb, han, S1, hse, HP, HL2, HO2, HE⟩ := hrel
            have hb := Hb.out
            have h2t : Hid (bs * (2 * t) = a) := Lib.hid (by rw [Ha.out, ← Hb2.out, Nat.mul_assoc])
            have h2s : Hid (bs * (2 * t + 1) = a + bs) := Lib.hid (by rw [Nat.mul_succ, h2t.out])
            have hbb := Hb2.out
            have hbs0 : 0 < bs := by omega
            obtain ⟨c, hc⟩ : ∃ c, a + bs = c := ⟨_, rfl⟩
            have ec : (a : Int) + (bs : Int) = (c : Int) := by omega
            have wc : IntKind.i64.wrap ((a : Int) + (bs : Int)) = (c : Int) := by rw [IntKind.wrap_i64]; omega
            have xc : IntKind.i64.wrap (c : Int) = (c : Int) := by rw [IntKind.wrap_i64]; omega
            -- the two runs of the block, up to whatever end
            have HPrep : Hid (∀ z, c < z → z ≤ n → z ≤ b → (z = b ∨ z = n) → SortedIn lt' a c e ∧ SortedIn lt' c z e ∧ OrdI idx a c z e) := Lib.hid fun z h1 h2 h3 h4 => by
              have g1 := HL.out (2 * t) (by rw [h2t.out]; omega)
              have g2 := HL.out (2 * t + 1) (by rw [h2s.out]; omega)
              rw [h2t.out, show min (a + bs) n = c by omega] at g1
              rw [h2s.out, show min (a + bs + bs) n = z by omega, hc] at g2
              refine ⟨sortedIn_same g1 fun k hk1 hk2 => HE.out k hk1, sortedIn_same g2 fun k hk1 hk2 => HE.out k (by omega), fun p q hp1 hp2 hq1 hq2 => ?_⟩
              rw [HE.out p hp1, HE.out q (by omega)]
              refine HO.out p q (by omega) (by omega) ?_
              rw [blk_div (t := 2 * t) (k := p) (by rw [h2t.out]; exact hp1) (by rw [h2t.out]; omega), blk_div (t := 2 * t + 1) (k := q) (by rw [h2s.out]; omega) (by rw [h2s.out]; omega)]
              exact Nat.lt_succ_self _
            by_cases hlt : b ≤ n
            · have hp := HPrep.out b (by omega) hlt (Nat.le_refl _) (.inl rfl)
              have C1 := Lib.hid (HSy.out a c b e wr hse S1.out (by omega) (by omega) hlt hp.1 hp.2.1 hp.2.2)
              rw [hse] at C1
              obtain ⟨b3, hb3⟩ : ∃ b3, b + b2 = b3 := ⟨_, rfl⟩
              have eb3 : (b : Int) + (b2 : Int) = (b3 : Int) := by omega
              have wb3 : IntKind.i64.wrap ((b : Int) + (b2 : Int)) = (b3 : Int) := by rw [IntKind.wrap_i64]; omega
              have hcn : c < n := by omega
              have Hb3 : Hid (b3 = b + b2) := Lib.hid hb3.symm
              have hmeas : n + b2 - b < n + b2 - a := by omega
              have Hb' := Lib.hid hb
              clear hp S1 HPrep hb hb3 hc hbb
              go_wp2_with fail
              refine C1.out.mono ?_
              rintro e0 w4 ⟨rfl, e', g1, g2, g3⟩
              have S2 := Lib.hid g1
              have hmin : min (b2 * t + b2) n = b := by rw [← Ha.out]; have := Hb'.out; omega
              have hs' : e'.size = n := by rw [g2.1, hse]
              have HP2 : Hid (PermIn 0 n d e') := Lib.hid (permIn_trans _ _ _ _ _ HP.out (permIn_mono _ _ _ _ _ _ (Nat.zero_le _) hlt (by omega) g2))
              have HL3 : Hid (LvlS lt' b2 n (b2 * (t + 1)) e') := Lib.hid (HL2.out.add (by rw [hmin, ← Ha.out]; exact g2) (by rw [hmin, ← Ha.out]; exact g3))
              have HO3 : Hid (OrdB idx b2 n e') := Lib.hid (HO2.out.perm (by omega) hlt (fun k h1 h2 => blk_div (t := t) (by rw [← Ha.out]; exact h1) (by rw [← Ha.out]; have := Hb'.out; omega)) g2)
              have HE2 : Hid (∀ k, b ≤ k → e'[k]! = dk[k]!) := Lib.hid fun k hk => (g2.2.1 k (.inr hk)).trans (HE.out k (by have := Hb'.out; omega))
              have Ha2 : Hid (b = b2 * (t + 1)) := Lib.hid (by rw [Nat.mul_succ, ← Ha.out]; exact Hb'.out)
              clear g1 g2 g3 C1 HP HL2 HO2 HE Ha h2t h2s hmin
              go_wp2
              go_roundw
              case rel => exact ⟨t + 1, b, b3, e', by first | rfl | go_num, by first | rfl | go_num, Ha2, Hb3, hlt, S2, hs', HP2, HL3, HO3, HE2⟩
              case measure => simp [intOf]; omega
            · by_cases hcn : c < n
              · have hp := HPrep.out n hcn (Nat.le_refl _) (by omega) (.inr rfl)
                have Hb' := Lib.hid hb
                have hb26 : b2 ≤ 600 := by omega
                have hb220 : 20 ≤ b2 := by omega
                have hmeas : n - b2 < n - bs := by omega
                have Hc := Lib.hid hc
                have C1 := Lib.hid (HSy.out a c n e wr hse S1.out (by omega) hcn (Nat.le_refl _) hp.1 hp.2.1 hp.2.2)
                rw [hse] at C1
                clear hp S1 HPrep hb hc hbb
                go_wp2_with fail
                refine C1.out.mono ?_
                rintro e0 w4 ⟨rfl, e', g1, g2, g3⟩
                have S2 := Lib.hid g1
                have hmin : min (b2 * t + b2) n = n := by rw [← Ha.out]; have := Hb'.out; omega
                have hs' : e'.size = n := by rw [g2.1, hse]
                have HP2 : Hid (PermIn 0 n d e') := Lib.hid (permIn_trans _ _ _ _ _ HP.out (permIn_mono _ _ _ _ _ _ (Nat.zero_le _) (Nat.le_refl _) (by omega) g2))
                have HL3 : Hid (LvlS lt' b2 n n e') := Lib.hid fun t' ht' => by
                  have h := HL2.out.add (by rw [hmin, ← Ha.out]; exact g2) (by rw [hmin, ← Ha.out]; exact g3)
                  exact h t' (by rw [Nat.mul_succ, ← Ha.out]; have := Hb'.out; omega)
                have HO3 : Hid (OrdB idx b2 n e') := Lib.hid (HO2.out.perm (by omega) (Nat.le_refl _) (fun k h1 h2 => blk_div (t := t) (by rw [← Ha.out]; exact h1) (by rw [← Ha.out]; have := Hb'.out; omega)) g2)
                clear g1 g2 g3 C1 HP HL2 HO2 HE Ha h2t h2s hmin
                go_wp2
                go_roundw
                case rel => exact ⟨b2, e', by first | rfl | go_num, hb220, hb26, S2, hs', HP2, HL3, HO3⟩
                case measure => simp [intOf]; omega
              · have HL3 : Hid (LvlS lt' b2 n n e) := Lib.hid fun t' ht' => by
                  by_cases ht : b2 * t' < b2 * t
                  · exact HL2.out t' ht
                  · have h3 : t ≤ t' := by
                      rcases Nat.lt_or_ge t' t with h | h
                      · exact absurd (Nat.mul_lt_mul_of_pos_left h (by omega)) ht
                      · exact h
                    have h4 : t' < t + 1 := by
                      rcases Nat.lt_or_ge t' (t + 1) with h | h
                      · exact h
                      · have := Nat.mul_le_mul_left b2 h
                        rw [Nat.mul_succ, ← Ha.out] at this
                        omega
                    obtain rfl : t' = t := by omega
                    rw [← Ha.out] at ht' ⊢
                    have g1 := HL.out (2 * t') (by rw [h2t.out]; omega)
                    rw [h2t.out, show min (a + bs) n = n by omega] at g1
                    rw [show min (a + b2) n = n by omega]
                    exact sortedIn_same g1 fun k hk1 hk2 => HE.out k hk1
                have hb26 : b2 ≤ 600 := by omega
                have hb220 : 20 ≤ b2 := by omega
                have hmeas : n - b2 < n - bs := by omega
                clear HL2 HE Ha h2t h2s hb HPrep hbb hc
                go_wp2
                go_roundw
                case rel => exact ⟨b2, e, by first | rfl | go_num, hb220, hb26, S1, hse, HP, HL3, HO2⟩
                case measure => simp [intOf]; omega
        · have HF : Hid (SortedIn lt' 0 n dk) := Lib.hid (by
            rcases Nat.eq_zero_or_pos n with h | h
            · intro i j hi hij hj; omega
            · have g := HL.out 0 (by simpa using h)
              rw [Nat.mul_zero, show min (0 + bs) n = n by omega] at g
              exact g)
          go_wp2
          go_end0
          exact ⟨rfl, dk, S1.out, HP.out, HF.out⟩
end

end Go.Proofs.Ytoehgcakfblblaa
