/- Counts of the specification. -/
import Derived.Test.YtkjelakdejbolaaSy1
import Derived.Test.YtkjelakdejbolaaAppI
namespace Go.Proofs.Ytkjelakdejbolaa
open Go.RowKit
set_option maxRecDepth 100000

theorem range_push (f : Nat → Int) (k : Nat) (v : Int) (h : f k = v) : (List.range k).map f ++ [v] = (List.range (k + 1)).map f := by
  rw [List.range_succ, List.map_append, ← h]
  rfl
theorem ltN_take {L : List Int} {k : Nat} {y : Int} (h : L[k]? = some y) (x : Int) : ltN (L.take (k + 1)) x = ltN (L.take k) x + if y < x then 1 else 0 := by
  unfold ltN
  rw [List.take_add_one, h, Option.toList_some, List.countP_append, List.countP_singleton]
  simp
theorem ltN_take_le (L : List Int) (k : Nat) (x : Int) : ltN (L.take k) x ≤ k := Nat.le_trans (ltN_le _ _) (by rw [List.length_take]; omega)
theorem newI_none {w : World} : NewI w [] (.returned (.slice none 0 0)) w := ⟨none, 0, rfl, World.ownsRow_nil _ _ _ _, Below.refl _ _⟩

set_option maxHeartbeats 1600000 in
theorem specCounts_in (A : Option Addr) (n c : Nat) (L : List Int) (w : World) (hL : Lies w I A L) (Hn : Hid (L.length = n)) (hn : n ≤ 301) (HOk : Hid (symOk L = true)) :
    Calls Try.prog 38 #[.slice A n c] w (NewI w ((List.range 258).map fun c : Nat => (ltN L (c : Int) : Int))) := by
  have HL := Lib.hid hL
  have HC := Lib.hid (specSymsOk_any A c L w hL)
  rw [Hn.out, HOk.out] at HC
  clear hL
  have hO0 : (w.alloc (Obj.cells #[] 3)).ownsRow w.heap.size 3 1 (.slice (some ⟨w.heap.size, 0, none⟩) 0 0) ([] : List Int).length (([] : List Int).map I) := World.ownsRow_lit w _ _ (Nat.le_refl _) (show 0 ≤ maxLen by decide) rfl
  have HO0 := Lib.hid hO0
  have HB0 : Hid (Below w.heap.size w (w.alloc (Obj.cells #[] 3))) := Lib.hid ((Below.refl _ _).alloc (Nat.le_refl _) _)
  clear hO0
  go_enter Try.func38, Try.ntmps38
  go_wp2_with fail
  refine HC.out.mono ?_
  rintro e w1 ⟨rfl, rfl⟩
  go_wp2
  generalize w1.alloc (Obj.cells #[] 3) = w2 at *
  go_loopw [3, 4] (fun v i wr => ∃ (k : Nat) (D : List Int), k ≤ 258 ∧ D.length = k ∧ i = .int .i64 k ∧ Hid (D = (List.range k).map fun c : Nat => (ltN L (c : Int) : Int)) ∧ Hid (wr.ownsRow w1.heap.size 3 1 v D.length (D.map I)) ∧ Hid (Below w1.heap.size w1 wr)) (fun _ i _ => 258 - (intOf i).toNat)
  case atStart => exact ⟨0, [], Nat.zero_le _, rfl, rfl, Lib.hid rfl, HO0, HB0⟩
  case round =>
    obtain ⟨k, D, hk, hD, rfl, HD, HO, HB⟩ := hrel
    clear HO0 HB0
    by_cases hlt : k < 258
    · go_wp2
      go_loop [5, 6] (fun a i => ∃ j : Nat, j ≤ n ∧ i = .int .i64 j ∧ a = .int .i64 (ltN (L.take j) (k : Int) : Nat)) (fun _ i => n - (intOf i).toNat)
      case atStart => exact ⟨0, Nat.zero_le _, rfl, rfl⟩
      case round =>
        obtain ⟨j, hj, rfl, rfl⟩ := hrel
        by_cases hjn : j < n
        · obtain ⟨b, o, x, hA, hbl, hx, hc0⟩ := HL.out.at_ (i := j) (by rw [Hn.out]; exact hjn)
          subst hA
          have hc : wr.cell? ⟨b, o + j, none⟩ = some (I x) := (HB.out.cell (p := ⟨b, o + j, none⟩) hbl).trans hc0
          clear hc0
          have HS := Lib.hid (ltN_take hx (k : Int))
          have hle := ltN_take_le L j (k : Int)
          obtain ⟨v, hv⟩ : ∃ v, ltN (L.take j) (k : Int) = v := ⟨_, rfl⟩
          rw [hv] at HS hle ⊢
          clear hx hv
          by_cases hxk : x < (k : Int)
          · rw [if_pos hxk] at HS
            have h1 : decide (x < (k : Int)) = true := by simpa using hxk
            go_wp2
            go_round
            case rel => exact ⟨j + 1, by omega, by go_num, by rw [HS.out]; go_num⟩
            case measure => simp [intOf]; omega
          · rw [if_neg hxk] at HS
            have h1 : decide (x < (k : Int)) = false := by simp; omega
            go_wp2
            go_round
            case rel => exact ⟨j + 1, by omega, by go_num, by rw [HS.out]; go_num⟩
            case measure => simp [intOf]; omega
        · obtain rfl : j = n := by omega
          have HE : Hid (ltN (L.take j) (k : Int) = ltN L (k : Int)) := Lib.hid (by rw [List.take_of_length_le (by rw [Hn.out]; exact Nat.le_refl _)])
          rw [HE.out]
          have hle : ltN L (k : Int) ≤ j := by have := ltN_le L (k : Int); rw [Hn.out] at this; exact this
          have HP : Hid (D ++ [(ltN L (k : Int) : Int)] = (List.range (k + 1)).map fun c : Nat => (ltN L (c : Int) : Int)) := Lib.hid (by rw [HD.out]; exact range_push _ k _ rfl)
          obtain ⟨v, hv⟩ : ∃ v, ltN L (k : Int) = v := ⟨_, rfl⟩
          rw [hv] at HP hle ⊢
          obtain ⟨E, hE⟩ : ∃ E, D ++ [(v : Int)] = E := ⟨_, rfl⟩
          have hEl : E.length = k + 1 := by rw [← hE]; simp [hD]
          have HE1 := Lib.hid hE
          have HE2 : Hid (E = (List.range (k + 1)).map fun c : Nat => (ltN L (c : Int) : Int)) := Lib.hid (by rw [← hE]; exact HP.out)
          have hsz := HB.out.size
          clear hv hE HP HE
          go_wp2_with (at_builtin; refine wpList_pushI rfl _ _ rfl w1.heap.size _ _ _ rfl HO.out (v : Int) rfl hsz (by omega) _ HE1.out ?_)
          intro A4 c4 w4 ho4 hg4
          have HO4 := Lib.hid ho4
          have HB4 := Lib.hid (HB.out.trans (grown_below HO.out hg4 (Nat.le_refl _) hsz))
          clear ho4 hg4
          go_wp2
          go_roundw
          case rel => exact ⟨k + 1, E, by omega, hEl, by go_num, HE2, by rw [hEl]; exact HO4, HB4⟩
          case measure => simp [intOf]; omega
    · obtain rfl : k = 258 := by omega
      obtain ⟨A5, c5, rfl⟩ := own_slice HO.out
      have HF : Hid (NewI w1 ((List.range 258).map fun c : Nat => (ltN L (c : Int) : Int)) (.returned (.slice A5 D.length c5)) wr) := Lib.hid (by
        rw [← HD.out]
        exact ⟨A5, c5, rfl, HO.out, HB.out⟩)
      clear HO HB
      go_wp2
      go_ret
      exact HF.out

theorem specCounts_any (A : Option Addr) (c : Nat) (L : List Int) (w : World) (hL : Lies w I A L) :
    Calls Try.prog 38 #[.slice A L.length c] w (NewI w (countsV L)) := by
  unfold countsV
  by_cases h : symOk L = true
  · rw [if_pos h]
    exact specCounts_in A L.length c L w hL (Lib.hid rfl) (symOk_len h) (Lib.hid h)
  · rw [if_neg h]
    have HC := Lib.hid (specSymsOk_any A c L w hL)
    rw [show symOk L = false by simpa using h] at HC
    generalize L.length = n at *
    clear hL h
    go_enter Try.func38, Try.ntmps38
    go_wp2_with fail
    refine HC.out.mono ?_
    rintro e w1 ⟨rfl, rfl⟩
    go_wp2
    go_ret
    exact newI_none

end Go.Proofs.Ytkjelakdejbolaa
