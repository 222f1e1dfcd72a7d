/- LfOf of the specification. -/
import Derived.Test.YtkjelakdejbolaaSy2
import Derived.Test.YtkjelakdejbolaaSf2
namespace Go.Proofs.Ytkjelakdejbolaa
open Go.RowKit
set_option maxRecDepth 100000

/-- What the inner loop has counted of the first j symbols, for index k with the symbol y. -/
def lfK (L : List Int) (k : Nat) (y : Int) (j : Nat) : Nat := ltN (L.take j) y + (L.take (min j k)).count y
theorem lfK_zero (L : List Int) (k : Nat) (y : Int) : lfK L k y 0 = 0 := by unfold lfK ltN; simp
theorem lfK_all {L : List Int} {k : Nat} {y : Int} (hk : L[k]? = some y) : lfK L k y L.length = lfAt L k := by
  have hl := (List.getElem?_eq_some_iff.1 hk).1
  unfold lfK
  rw [lfAt_of hk, List.take_of_length_le (Nat.le_refl _), Nat.min_eq_right (by omega)]
theorem lfK_less {L : List Int} {k j : Nat} {x y : Int} (hj : L[j]? = some x) (h : x < y) : lfK L k y (j + 1) = lfK L k y j + 1 := by
  unfold lfK
  rw [ltN_take hj, if_pos h]
  by_cases hjk : j < k
  · rw [Nat.min_eq_left (show j + 1 ≤ k by omega), Nat.min_eq_left (show j ≤ k by omega), count_take1 hj, if_neg (by omega)]
    omega
  · rw [Nat.min_eq_right (show k ≤ j + 1 by omega), Nat.min_eq_right (show k ≤ j by omega)]
    omega
theorem lfK_same {L : List Int} {k j : Nat} {y : Int} (hj : L[j]? = some y) (h : j < k) : lfK L k y (j + 1) = lfK L k y j + 1 := by
  unfold lfK
  rw [ltN_take hj, if_neg (by omega), Nat.min_eq_left (show j + 1 ≤ k by omega), Nat.min_eq_left (show j ≤ k by omega), count_take1 hj, if_pos rfl]
  omega
theorem lfK_else {L : List Int} {k j : Nat} {x y : Int} (hj : L[j]? = some x) (h : ¬ x < y) (h2 : ¬ (j < k ∧ x = y)) : lfK L k y (j + 1) = lfK L k y j := by
  unfold lfK
  rw [ltN_take hj, if_neg h]
  by_cases hjk : j < k
  · rw [Nat.min_eq_left (show j + 1 ≤ k by omega), Nat.min_eq_left (show j ≤ k by omega), count_take1 hj, if_neg (fun e => h2 ⟨hjk, e⟩)]
    omega
  · rw [Nat.min_eq_right (show k ≤ j + 1 by omega), Nat.min_eq_right (show k ≤ j by omega)]
    omega
theorem lfK_le (L : List Int) (k : Nat) (y : Int) (j : Nat) : lfK L k y j ≤ j + j := by
  have h1 := ltN_take_le L j y
  have h2 : (L.take (min j k)).count y ≤ j := Nat.le_trans List.count_le_length (by rw [List.length_take]; omega)
  unfold lfK
  omega

set_option maxHeartbeats 4000000 in
theorem specLf_in (A : Option Addr) (n c : Nat) (L : List Int) (w : World) (hL : Lies w I A L) (Hn : Hid (L.length = n)) (hn : n ≤ 301) (HOk : Hid (symOk L = true)) :
    Calls Try.prog 39 #[.slice A n c] w (NewI w ((List.range n).map fun k : Nat => (lfAt L k : Int))) := by
  have HL := Lib.hid hL
  have HC := Lib.hid (specSymsOk_any A c L w hL)
  rw [Hn.out, HOk.out] at HC
  clear hL
  have hO0 : (w.alloc (Obj.cells #[] 3)).ownsRow w.heap.size 3 1 (.slice (some ⟨w.heap.size, 0, none⟩) 0 0) ([] : List Int).length (([] : List Int).map I) := World.ownsRow_lit w _ _ (Nat.le_refl _) (show 0 ≤ maxLen by decide) rfl
  have HO0 := Lib.hid hO0
  have HB0 : Hid (Below w.heap.size w (w.alloc (Obj.cells #[] 3))) := Lib.hid ((Below.refl _ _).alloc (Nat.le_refl _) _)
  clear hO0
  go_enter Try.func39, Try.ntmps39
  go_wp2_with fail
  refine HC.out.mono ?_
  rintro e w1 ⟨rfl, rfl⟩
  go_wp2
  generalize w1.alloc (Obj.cells #[] 3) = w2 at *
  go_loopw [3, 4] (fun v i wr => ∃ (k : Nat) (D : List Int), k ≤ n ∧ D.length = k ∧ i = .int .i64 k ∧ Hid (D = (List.range k).map fun k : Nat => (lfAt L k : Int)) ∧ Hid (wr.ownsRow w1.heap.size 3 1 v D.length (D.map I)) ∧ Hid (Below w1.heap.size w1 wr)) (fun _ i _ => n - (intOf i).toNat)
  case atStart => exact ⟨0, [], Nat.zero_le _, rfl, rfl, Lib.hid rfl, HO0, HB0⟩
  case round =>
    obtain ⟨k, D, hk, hD, rfl, HD, HO, HB⟩ := hrel
    clear HO0 HB0
    obtain ⟨Ad, cd, rfl⟩ := own_slice HO.out
    have HDl := Lib.hid hD
    clear hD
    generalize wr = W0 at *
    by_cases hlt : k < n
    · obtain ⟨b, o, y, hA, hbl, hy, hcy0⟩ := HL.out.at_ (i := k) (by rw [Hn.out]; exact hlt)
      subst hA
      have HY := Lib.hid hy
      clear hy
      go_wp2
      go_loopw [5, 6] (fun a i wr => ∃ j : Nat, j ≤ n ∧ i = .int .i64 j ∧ a = .int .i64 (lfK L k y j : Nat) ∧ Hid (Drawn W0 wr)) (fun _ i _ => n - (intOf i).toNat)
      case atStart => exact ⟨0, Nat.zero_le _, rfl, by rw [lfK_zero]; rfl, Lib.hid (Drawn.refl _)⟩
      case round =>
        obtain ⟨j, hj, rfl, rfl, HDr⟩ := hrel
        have HB2 : Hid (Below w1.heap.size w1 wr) := Lib.hid (by obtain ⟨q, rfl⟩ := HDr.out; exact below_dN HB.out q)
        have hcy : wr.cell? ⟨b, o + k, none⟩ = some (I y) := (HB2.out.cell (p := ⟨b, o + k, none⟩) hbl).trans hcy0
        by_cases hjn : j < n
        · obtain ⟨b', o', x, hA, hbl', hx, hc0⟩ := HL.out.at_ (i := j) (by rw [Hn.out]; exact hjn)
          cases hA
          have hc : wr.cell? ⟨b, o + j, none⟩ = some (I x) := (HB2.out.cell (p := ⟨b, o + j, none⟩) hbl).trans hc0
          clear hc0
          have HX := Lib.hid hx
          have hle := lfK_le L k y j
          have hni : (j : Int) < (n : Int) := by omega
          have hki : (k : Int) < (n : Int) := by omega
          clear hx
          by_cases hxy : x < y
          · have HS := Lib.hid (lfK_less (k := k) HX.out hxy)
            obtain ⟨v, hv⟩ : ∃ v, lfK L k y j = v := ⟨_, rfl⟩
            rw [hv] at HS hle ⊢
            clear hv
            have h1 : decide (x < y) = true := by simpa using hxy
            go_wp2
            go_quiet (fail)
            go_wp2
            go_roundw
            case rel => exact ⟨j + 1, by omega, by go_num, by rw [HS.out]; go_num, Lib.hid (HDr.out.more _)⟩
            case measure => simp [intOf]; omega
          · have h1 : decide (x < y) = false := by simp; omega
            by_cases hjk : j < k
            · have h2 : decide (j < k) = true := by simpa using hjk
              have h2i : decide ((j : Int) < (k : Int)) = true := by simp; omega
              by_cases hsame : x = y
              · subst hsame
                have HS := Lib.hid (lfK_same (k := k) HX.out hjk)
                obtain ⟨v, hv⟩ : ∃ v, lfK L k x j = v := ⟨_, rfl⟩
                rw [hv] at HS hle ⊢
                clear hv
                go_wp2
                go_quiet (fail)
                go_wp2
                go_roundw
                case rel => exact ⟨j + 1, by omega, by go_num, by rw [HS.out]; go_num, Lib.hid (HDr.out.more _)⟩
                case measure => simp [intOf]; omega
              · have HS := Lib.hid (lfK_else (k := k) HX.out hxy fun h => hsame h.2)
                have h3 : (x == y) = false := by simpa using hsame
                obtain ⟨v, hv⟩ : ∃ v, lfK L k y j = v := ⟨_, rfl⟩
                rw [hv] at HS hle ⊢
                clear hv
                go_wp2
                go_quiet (fail)
                go_wp2
                go_roundw
                case rel => exact ⟨j + 1, by omega, by go_num, by rw [HS.out], Lib.hid (HDr.out.more _)⟩
                case measure => simp [intOf]; omega
            · have h2 : decide (j < k) = false := by simpa using hjk
              have h2i : decide ((j : Int) < (k : Int)) = false := by simp; omega
              have HS := Lib.hid (lfK_else (k := k) HX.out hxy fun h => hjk h.1)
              obtain ⟨v, hv⟩ : ∃ v, lfK L k y j = v := ⟨_, rfl⟩
              rw [hv] at HS hle ⊢
              clear hv
              go_wp2
              go_quiet (fail)
              go_wp2
              go_roundw
              case rel => exact ⟨j + 1, by omega, by go_num, by rw [HS.out], Lib.hid (HDr.out.more _)⟩
              case measure => simp [intOf]; omega
        · obtain rfl : j = n := by omega
          have HE : Hid (lfK L k y j = lfAt L k) := Lib.hid (by rw [← Hn.out]; exact lfK_all HY.out)
          rw [HE.out]
          have hle : lfAt L k < j := by have := lfAt_lt (L := L) (k := k) (by rw [Hn.out]; exact hlt); rw [Hn.out] at this; exact this
          have HP : Hid (D ++ [(lfAt L k : Int)] = (List.range (k + 1)).map fun k : Nat => (lfAt L k : Int)) := Lib.hid (by rw [HD.out]; exact range_push _ k _ rfl)
          obtain ⟨v, hv⟩ : ∃ v, lfAt L k = v := ⟨_, rfl⟩
          rw [hv] at HP hle ⊢
          obtain ⟨E, hE⟩ : ∃ E, D ++ [(v : Int)] = E := ⟨_, rfl⟩
          have hEl : E.length = k + 1 := by rw [← hE]; simp [HDl.out]
          have HE1 := Lib.hid hE
          have HE2 : Hid (E = (List.range (k + 1)).map fun k : Nat => (lfAt L k : Int)) := Lib.hid (by rw [← hE]; exact HP.out)
          have HO2 : Hid (wr.ownsRow w1.heap.size 3 1 (.slice Ad D.length cd) D.length (D.map I)) := Lib.hid (by obtain ⟨q, rfl⟩ := HDr.out; exact HO.out)
          have hsz := HB2.out.size
          clear hv hE HP HE HO HB HDr
          go_wp2_with (at_builtin; refine wpList_pushI rfl _ _ rfl w1.heap.size _ _ _ rfl HO2.out (v : Int) rfl hsz (by have := HDl.out; omega) _ HE1.out ?_)
          intro A4 c4 w4 ho4 hg4
          have HO4 := Lib.hid ho4
          have HB4 := Lib.hid (HB2.out.trans (grown_below HO2.out hg4 (Nat.le_refl _) hsz))
          clear ho4 hg4
          go_wp2
          go_roundw
          case rel => exact ⟨k + 1, E, by omega, hEl, by go_num, HE2, by first | exact HO4 | (rw [hEl]; exact HO4) | (have h := HO4; rw [hEl] at h; exact h) | (have h := HO4; rw [hEl] at h ⊢; exact h), HB4⟩
          case measure => simp [intOf]; omega
    · obtain rfl : k = n := by omega
      have HF : Hid (NewI w1 ((List.range k).map fun k : Nat => (lfAt L k : Int)) (.returned (.slice Ad D.length cd)) W0) := Lib.hid (by
        rw [← HD.out]
        exact ⟨Ad, cd, rfl, HO.out, HB.out⟩)
      clear HO HB
      go_wp2
      go_ret
      exact HF.out

theorem specLf_any (A : Option Addr) (c : Nat) (L : List Int) (w : World) (hL : Lies w I A L) :
    Calls Try.prog 39 #[.slice A L.length c] w (NewI w (lfV L)) := by
  unfold lfV
  by_cases h : symOk L = true
  · rw [if_pos h]
    exact specLf_in A L.length c L w hL (Lib.hid rfl) (symOk_len h) (Lib.hid h)
  · rw [if_neg h]
    have HC := Lib.hid (specSymsOk_any A c L w hL)
    rw [show symOk L = false by simpa using h] at HC
    generalize L.length = n at *
    clear hL h
    go_enter Try.func39, Try.ntmps39
    go_wp2_with fail
    refine HC.out.mono ?_
    rintro e w1 ⟨rfl, rfl⟩
    go_wp2
    go_ret
    exact newI_none

end Go.Proofs.Ytkjelakdejbolaa
