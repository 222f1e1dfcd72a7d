import Derived.Test.YtkjelakdejbolaaSf3
import Derived.Test.YtkjelakdejbolaaAppI
import Derived.IntWalk
import Derived.Test.YtkjelakdejbolaaNewI
/- SuffixRows of the specification: by insertion. -/
namespace Go.Proofs.Ytkjelakdejbolaa
open Go.RowKit
set_option maxRecDepth 100000

/-- The last m suffixes, in ascending order. -/
def Part (t : List Nat) (m : Nat) (M : List Nat) : Prop := M.Perm (List.range' (t.length + 1 - m) m) ∧ M.Pairwise (fun i j => lcmp (t.drop i) (t.drop j) < 0)
theorem Part.zero (t : List Nat) : Part t 0 [] := ⟨by simp, List.Pairwise.nil⟩
theorem Part.len {t M : List Nat} {m : Nat} (h : Part t m M) : M.length = m := by rw [h.1.length_eq, List.length_range']
theorem Part.mem {t M : List Nat} {m : Nat} (h : Part t m M) (hm : m ≤ t.length + 1) {x : Nat} (hx : x ∈ M) : t.length + 1 - m ≤ x ∧ x ≤ t.length := by
  have := h.1.mem_iff.1 hx
  rw [List.mem_range'_1] at this
  omega
theorem Part.done {t M : List Nat} (h : Part t (t.length + 1) M) : M = sfx t := by
  refine IsSfx.eq ⟨?_, h.2⟩
  have := h.1
  rwa [Nat.sub_self, ← List.range_eq_range'] at this

/-- Where the suffix x goes. -/
def Lo (t M : List Nat) (x lo : Nat) : Prop := ∀ j y, M[j]? = some y → j < lo → lcmp (t.drop y) (t.drop x) < 0
def Hi (t M : List Nat) (x hi : Nat) : Prop := ∀ j y, M[j]? = some y → hi ≤ j → 0 ≤ lcmp (t.drop y) (t.drop x)
theorem part_le {t M : List Nat} {m : Nat} (h : Part t m M) {i j y z : Nat} (hi : M[i]? = some y) (hj : M[j]? = some z) (hij : i ≤ j) : lcmp (t.drop y) (t.drop z) ≤ 0 := by
  obtain ⟨h1, rfl⟩ := List.getElem?_eq_some_iff.1 hi
  obtain ⟨h2, rfl⟩ := List.getElem?_eq_some_iff.1 hj
  by_cases e : i = j
  · subst e
    rw [lcmp_self]; omega
  · have := List.pairwise_iff_getElem.1 h.2 i j h1 h2 (by omega)
    omega
theorem Lo.mid {t M : List Nat} {m x k y : Nat} (h : Part t m M) (hk : M[k]? = some y) (hc : lcmp (t.drop y) (t.drop x) < 0) : Lo t M x (k + 1) := fun j z hz hj =>
  lcmp_le_lt (part_le h hz hk (by omega)) hc
theorem Hi.mid {t M : List Nat} {m x k y : Nat} (h : Part t m M) (hk : M[k]? = some y) (hc : ¬ lcmp (t.drop y) (t.drop x) < 0) : Hi t M x k := fun j z hz hj => by
  have h1 := part_le h hk hz hj
  refine Classical.byContradiction fun hn => hc (lcmp_le_lt h1 (by omega))

theorem Part.insert {t M : List Nat} {m x lo : Nat} (h : Part t m M) (hm : x + m = t.length) (hl : lo ≤ m) (h1 : Lo t M x lo) (h2 : Hi t M x lo) : Part t (m + 1) (M.take lo ++ x :: M.drop lo) := by
  have hlen := h.len
  constructor
  · refine List.perm_middle.trans ?_
    rw [List.take_append_drop, show t.length + 1 - (m + 1) = x by omega, List.range'_succ, show x + 1 = t.length + 1 - m by omega]
    exact h.1.cons x
  · have hsp := h.2
    rw [← List.take_append_drop lo M] at hsp
    rw [List.pairwise_append] at hsp ⊢
    refine ⟨hsp.1, List.pairwise_cons.2 ⟨fun y hy => ?_, hsp.2.1⟩, fun a ha b hb => ?_⟩
    · obtain ⟨j, hj, rfl⟩ := List.getElem_of_mem hy
      rw [List.getElem_drop]
      rw [List.length_drop] at hj
      have hg : M[lo + j]? = some M[lo + j] := List.getElem?_eq_getElem (by omega)
      have := h2 _ _ hg (by omega)
      rw [lcmp_swap]
      have hne : lcmp (t.drop M[lo + j]) (t.drop x) ≠ 0 := fun e => by
        have hb := h.mem (by omega) (List.mem_of_getElem? hg)
        have := drop_inj (by omega) (by omega) (lcmp_eq e)
        omega
      omega
    · have ha2 : lcmp (t.drop a) (t.drop x) < 0 := by
        obtain ⟨j, hj, rfl⟩ := List.getElem_of_mem ha
        rw [List.length_take] at hj
        rw [List.getElem_take]
        exact h1 j _ (List.getElem?_eq_getElem (by omega)) (by omega)
      rcases List.mem_cons.1 hb with rfl | hb
      · exact ha2
      · exact hsp.2.2 a ha b hb

/-- What SuffixRows is to return. -/
def sfxV (L : List Nat) : List Int := if L.length ≤ 300 then (sfx L).map Int.ofNat else []
theorem sfxV_len (L : List Nat) : (sfxV L).length ≤ 301 := by
  unfold sfxV
  split
  · rw [List.length_map, sfx_len]; omega
  · simp

theorem ofNat_at {M : List Nat} {k y : Nat} (h : M[k]? = some y) : (M.map Int.ofNat)[k]? = some (y : Int) := by rw [List.getElem?_map, h]; rfl

end Go.Proofs.Ytkjelakdejbolaa

/- SuffixRows of the specification, walked. -/
namespace Go.Proofs.Ytkjelakdejbolaa
open Go.RowKit
set_option maxRecDepth 100000

set_option maxHeartbeats 1600000 in
theorem specSuffixRows_in (A : Option Addr) (n c : Nat) (L : List Nat) (w : World) (hL : Lies w B8 A L) (hA : Tidy A c) (Hn : Hid (L.length = n)) (hn : n ≤ 300) (hc : n ≤ c) :
    Calls Try.prog 21 #[.slice A n c] w (NewI w ((sfx L).map Int.ofNat)) := by
  have HL := Lib.hid hL
  clear hL
  have t3 : decide (n ≤ 300) = true := by simpa using hn
  have hO0 : (w.alloc (Obj.cells #[] 3)).ownsRow w.heap.size 3 1 (.slice (some ⟨w.heap.size, 0, none⟩) 0 0) ([] : List Int).length (([] : List Int).map I) := World.ownsRow_lit w _ _ (Nat.le_refl _) (show 0 ≤ maxLen by decide) rfl
  have HO0 := Lib.hid hO0
  have HB0 : Hid (Below w.heap.size w (w.alloc (Obj.cells #[] 3))) := Lib.hid ((Below.refl _ _).alloc (Nat.le_refl _) _)
  clear hO0
  go_enter Try.func21, Try.ntmps21
  go_wp2_with fail
  refine (specTextOk_any A n c w).mono ?_
  rintro e w1 ⟨rfl, rfl⟩
  rw [t3]
  go_wp2_with fail
  generalize w1.alloc (Obj.cells #[] 3) = w0 at *
  go_loopw [3, 4] (fun v i wr => ∃ (m : Nat) (M : List Nat) (D : List Int), m ≤ n + 1 ∧ D.length = m ∧ i = .int .i64 ((n : Int) - m) ∧ Hid (Part L m M) ∧ Hid (D = M.map Int.ofNat) ∧ Hid (wr.ownsRow w1.heap.size 3 1 v D.length (D.map I)) ∧ Hid (Below w1.heap.size w1 wr)) (fun _ i _ => (intOf i + 1).toNat)
  case atStart => exact ⟨0, [], [], Nat.zero_le _, rfl, by simp, Lib.hid (Part.zero L), Lib.hid rfl, HO0, HB0⟩
  case round =>
    obtain ⟨m, M, D, hm, hD, rfl, HP, HD, HO, HB⟩ := hrel
    clear HO0 HB0
    obtain ⟨Ad, cd, rfl⟩ := own_slice HO.out
    by_cases hlt : m ≤ n
    · obtain ⟨x, hx⟩ : ∃ x, n - m = x := ⟨_, rfl⟩
      have hxi : (n : Int) - (m : Int) = (x : Int) := by omega
      rw [hxi]
      generalize wr = W0 at *
      go_wp2
      rw [hD]
      go_loopw [5, 6] (fun a b w2 => ∃ lo hi : Nat, lo ≤ hi ∧ hi ≤ m ∧ a = .int .i64 lo ∧ b = .int .i64 hi ∧ Hid (Lo L M x lo) ∧ Hid (Hi L M x hi) ∧ Hid (Drawn W0 w2)) (fun a b _ => (intOf b - intOf a).toNat)
      case atStart =>
        have hMl := HP.out.len
        exact ⟨0, m, Nat.zero_le _, Nat.le_refl _, rfl, rfl, Lib.hid (fun j y _ h => by omega), Lib.hid (fun j y hj h => by
          have := (List.getElem?_eq_some_iff.1 hj).1
          omega), Lib.hid (Drawn.refl _)⟩
      case round =>
        obtain ⟨lo, hi, hlh, hhm, rfl, rfl, HLo, HHi, HDr⟩ := hrel
        by_cases hll : lo < hi
        · obtain ⟨k, hk⟩ : ∃ k, (lo + hi) / 2 = k := ⟨_, rfl⟩
          have hkm : k < m := by omega
          have hq : ((lo : Int) + (hi : Int)).tdiv 2 = (k : Int) := by rw [Int.tdiv_eq_ediv_of_nonneg (by omega)]; omega
          have hq2 : ((lo : Int) + (hi : Int)) / 2 = (k : Int) := by omega
          have hk1 : k < hi := by omega
          have hk2 : lo ≤ k := by omega
          have hMl := HP.out.len
          obtain ⟨y, hy⟩ : ∃ y, M[k]? = some y := ⟨_, List.getElem?_eq_getElem (by omega)⟩
          have hyn : y ≤ n := by
            have := (HP.out.mem (by rw [Hn.out]; omega) (List.mem_of_getElem? hy)).2
            rwa [Hn.out] at this
          have hDk : D[k]? = some (y : Int) := by rw [HD.out]; exact ofNat_at hy
          obtain ⟨dq, hdq⟩ := HDr.out
          have HO2 : Hid (wr.ownsRow w1.heap.size 3 1 (.slice Ad m cd) m (D.map I)) := Lib.hid (by have := HO.out; rw [hD] at this; rw [hdq]; exact this)
          have HB2 : Hid (Below w1.heap.size w1 wr) := Lib.hid (by rw [hdq]; exact below_dN HB.out dq)
          have HDq := Lib.hid hdq
          have HLi : Hid (Lies wr I Ad D) := Lib.hid (Lies.of_own HO2.out)
          obtain ⟨b, o, hAd, hbl, hcell⟩ := HLi.out k _ hDk
          subst hAd
          obtain ⟨A1, hs1, hL1, hA1⟩ := slice_drop Try.elemBytes Try.sizeByte A n c L y wr Hn (HL.out.below HB2.out) hA hyn hc
          obtain ⟨A2, hs2, hL2, hA2⟩ := slice_drop Try.elemBytes Try.sizeByte A n c L x wr Hn (HL.out.below HB2.out) hA (by omega) hc
          have HC := Lib.hid fun (q : Nat) => specCmp_any A1 A2 (c - y) (c - x) (L.drop y) (L.drop x) (wr.drewN q) hL1 hL2 (by rw [List.length_drop, Hn.out]; omega) (by rw [List.length_drop, Hn.out]; omega)
          clear hL1 hL2 hA1 hA2 hMl hDk hk hdq
          by_cases hcmp : lcmp (L.drop y) (L.drop x) < 0
          · have HN : Hid (Lo L M x (k + 1)) := Lib.hid (Lo.mid HP.out hy hcmp)
            obtain ⟨r, hr⟩ : ∃ r, lcmp (L.drop y) (L.drop x) = r := ⟨_, rfl⟩
            rw [hr] at hcmp HC
            have hd : decide (r < 0) = true := by simpa using hcmp
            clear hy hr
            generalize L.drop y = D1 at *
            generalize L.drop x = D2 at *
            go_wp2
            go_quiet ((go_at_call 48; exact Calls.quiet_of (HC.out _)))
            go_wp2
            go_roundw
            case rel => exact ⟨k + 1, hi, by omega, hhm, by go_num, rfl, HN, HHi, Lib.hid (by rw [HDq.out]; exact Drawn.two _ _ _)⟩
            case measure => simp [intOf]; omega
          · have HN : Hid (Hi L M x k) := Lib.hid (Hi.mid HP.out hy hcmp)
            obtain ⟨r, hr⟩ : ∃ r, lcmp (L.drop y) (L.drop x) = r := ⟨_, rfl⟩
            rw [hr] at hcmp HC
            have hd : decide (r < 0) = false := by simpa using hcmp
            clear hy hr
            generalize L.drop y = D1 at *
            generalize L.drop x = D2 at *
            go_wp2
            go_quiet ((go_at_call 48; exact Calls.quiet_of (HC.out _)))
            go_wp2
            go_roundw
            case rel => exact ⟨lo, k, by omega, by omega, rfl, rfl, HLo, HN, Lib.hid (by rw [HDq.out]; exact Drawn.two _ _ _)⟩
            case measure => simp [intOf]; omega
        · obtain rfl : lo = hi := by omega
          have HPn : Hid (Part L (m + 1) (M.take lo ++ x :: M.drop lo)) := Lib.hid (HP.out.insert (by rw [Hn.out]; omega) hhm HLo.out HHi.out)
          obtain ⟨dq, hdq⟩ := HDr.out
          have HO2 : Hid (wr.ownsRow w1.heap.size 3 1 (.slice Ad m cd) m (D.map I)) := Lib.hid (by have := HO.out; rw [hD] at this; rw [hdq]; exact this)
          have HB2 : Hid (Below w1.heap.size w1 wr) := Lib.hid (by rw [hdq]; exact below_dN HB.out dq)
          clear HDr HLo HHi hll hdq HO HB
          have HLi : Hid (Lies wr I Ad D) := Lib.hid (Lies.of_own HO2.out)
          have hTd := own_tidy HO2.out
          have hcap := (row_cap HO2.out).1
          have Hm : Hid (D.length = m) := Lib.hid hD
          have hb3 : Below wr.heap.size wr (wr.alloc (Obj.cells #[.int .i64 (x : Int)] 3)) := (Below.refl _ _).alloc (Nat.le_refl _) _
          obtain ⟨A1, hs1, hL1, hA1⟩ := slice_drop Try.elemInts Try.sizeInt Ad m cd D lo (wr.alloc (Obj.cells #[.int .i64 (x : Int)] 3)) Hm (HLi.out.below hb3) hTd hhm hcap
          have hO3 : (wr.alloc (Obj.cells #[.int .i64 (x : Int)] 3)).ownsRow wr.heap.size 3 1 (.slice (some ⟨wr.heap.size, 0, none⟩) 1 1) ([(x : Int)] : List Int).length (([(x : Int)] : List Int).map I) := World.ownsRow_lit wr _ _ (Nat.le_refl _) (show 1 ≤ maxLen by decide) rfl
          have HO3 := Lib.hid hO3
          have HL1 := Lib.hid hL1
          have HA1 := Lib.hid hA1
          have HB3 := Lib.hid hb3
          obtain ⟨T1, hT1⟩ : ∃ T, D.drop lo = T := ⟨_, rfl⟩
          obtain ⟨T2, hT2⟩ : ∃ T, D.take lo = T := ⟨_, rfl⟩
          have hT1l : T1.length = m - lo := by rw [← hT1, List.length_drop, hD]
          have hT2l : T2.length = lo := by rw [← hT2, List.length_take, hD]; omega
          have HT1 := Lib.hid hT1
          have HT2 := Lib.hid hT2
          have HT1l := Lib.hid hT1l
          have HT2l := Lib.hid hT2l
          rw [hT1] at HL1 hs1
          obtain ⟨E1, hE1⟩ : ∃ E, [(x : Int)] ++ T1 = E := ⟨_, rfl⟩
          have HE1l : Hid (E1.length = m - lo + 1) := Lib.hid (by rw [← hE1]; simp [hT1l])
          have HE1 := Lib.hid hE1
          clear hO3 hL1 hA1 hb3 hT1 hT2 hE1 hT1l hT2l hD
          go_wp2_with (at_builtin; refine wpList_append_ints _ rfl _ _ rfl wr.heap.size _ [(x : Int)] rfl HO3.out A1 (cd - lo) T1 rfl HL1.out HA1.out E1 HE1.out (by have := HT1l.out; simp; omega) HB3.out.size ?_)
          intro A4 c4 w4 ho4 hg4
          have HB4 : Hid (Below wr.heap.size wr w4) := Lib.hid (HB3.out.trans (grown_below HO3.out hg4 (Nat.le_refl _) HB3.out.size))
          have HO4 := Lib.hid ho4
          have HL4 := Lib.hid (Lies.of_own ho4)
          clear ho4 hg4 HB3 HO3 hs1 HL1 HA1
          have hb5 : Below w4.heap.size w4 (w4.alloc (Obj.cells #[] 3)) := (Below.refl _ _).alloc (Nat.le_refl _) _
          obtain ⟨A2, hs2, hL2, hA2⟩ := slice_take Try.elemInts Try.sizeInt Ad m cd D lo (w4.alloc (Obj.cells #[] 3)) Hm ((HLi.out.below HB4.out).below hb5) hTd hhm hcap
          rw [HT2.out] at hL2 hs2
          have hO5 : (w4.alloc (Obj.cells #[] 3)).ownsRow w4.heap.size 3 1 (.slice (some ⟨w4.heap.size, 0, none⟩) 0 0) ([] : List Int).length (([] : List Int).map I) := World.ownsRow_lit w4 _ _ (Nat.le_refl _) (show 0 ≤ maxLen by decide) rfl
          have HO5 := Lib.hid hO5
          have HB5 := Lib.hid hb5
          have HL2 := Lib.hid hL2
          have HA2 := Lib.hid hA2
          clear hO5 hb5 hL2 hA2
          go_wp2_with (at_builtin; refine wpList_append_ints _ rfl _ _ rfl w4.heap.size _ [] rfl HO5.out A2 cd T2 rfl HL2.out HA2.out T2 rfl (by have := HT2l.out; simp; omega) HB5.out.size ?_)
          intro A6 c6 w6 ho6 hg6
          have HB6 : Hid (Below w4.heap.size w4 w6) := Lib.hid (HB5.out.trans (grown_below HO5.out hg6 (Nat.le_refl _) HB5.out.size))
          have HO6 := Lib.hid ho6
          have HL6 := Lib.hid (HL4.out.below HB6.out)
          obtain ⟨E3, hE3⟩ : ∃ E, T2 ++ E1 = E := ⟨_, rfl⟩
          have HE3 := Lib.hid hE3
          have HA4 := Lib.hid (own_tidy HO4.out)
          clear ho6 hg6 hE3 HB5 HO5 hs2 HL2 HA2
          go_wp2_with (at_builtin; refine wpList_append_ints _ rfl _ _ rfl w4.heap.size _ T2 rfl HO6.out A4 c4 E1 rfl HL6.out HA4.out E3 HE3.out (by have := HT2l.out; have := HE1l.out; omega) HB6.out.size ?_)
          intro A7 c7 w7 ho7 hg7
          have HB7 : Hid (Below w1.heap.size w1 w7) := Lib.hid (HB2.out.trans ((HB4.out.trans ((HB6.out.trans (grown_below HO6.out hg7 (Nat.le_refl _) HB6.out.size)).mono HB4.out.size)).mono HB2.out.size))
          have HO7 : Hid (w7.ownsRow w1.heap.size 3 1 (.slice A7 E3.length c7) E3.length (E3.map I)) := Lib.hid (own_mono ho7 (Nat.le_trans HB2.out.size HB4.out.size))
          have HE3l : Hid (E3.length = m + 1) := Lib.hid (by rw [← HE3.out, List.length_append, HT2l.out, HE1l.out]; omega)
          have HD7 : Hid (E3 = (M.take lo ++ x :: M.drop lo).map Int.ofNat) := Lib.hid (by
            rw [← HE3.out, ← HE1.out, ← HT1.out, ← HT2.out, HD.out, List.map_append, List.map_cons, List.map_take, List.map_drop]
            rfl)
          clear ho7 hg7
          go_wp2
          go_roundw
          case rel => exact ⟨m + 1, _, E3, by omega, HE3l.out, by go_num, HPn, HD7, HO7, HB7⟩
          case measure => simp [intOf]
    · have hmn : m = n + 1 := by omega
      have HV : Hid (D = (sfx L).map Int.ofNat) := Lib.hid (by
        have h1 := HP.out
        rw [hmn, ← Hn.out] at h1
        rw [HD.out, h1.done])
      have HNew : Hid (NewI w1 ((sfx L).map Int.ofNat) (.returned (.slice Ad D.length cd)) wr) := Lib.hid (by
        rw [← HV.out]
        exact ⟨Ad, cd, rfl, HO.out, HB.out⟩)
      have hi : (n : Int) - (m : Int) = -1 := by omega
      rw [hi]
      clear hi hlt
      go_wp2
      go_ret
      exact HNew.out

theorem specSuffixRows_any (A : Option Addr) (c : Nat) (L : List Nat) (w : World) (hL : Lies w B8 A L) (hA : Tidy A c) (hc : L.length ≤ c) :
    Calls Try.prog 21 #[.slice A L.length c] w (NewI w (sfxV L)) := by
  unfold sfxV
  by_cases h3 : L.length ≤ 300
  · rw [if_pos h3]
    exact specSuffixRows_in A L.length c L w hL hA (Lib.hid rfl) h3 hc
  · rw [if_neg h3]
    have t3 : decide (L.length ≤ 300) = false := by simpa using h3
    generalize L.length = n at *
    clear hL
    go_enter Try.func21, Try.ntmps21
    go_wp2_with fail
    refine (specTextOk_any A n c w).mono ?_
    rintro e w1 ⟨rfl, rfl⟩
    rw [t3]
    go_wp2
    go_ret
    exact ⟨none, 0, rfl, World.ownsRow_nil _ _ _ _, Below.refl _ _⟩

end Go.Proofs.Ytkjelakdejbolaa
