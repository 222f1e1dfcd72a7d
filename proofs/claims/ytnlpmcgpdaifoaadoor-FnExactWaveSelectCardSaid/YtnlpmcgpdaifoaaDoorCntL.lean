/- The laws' count of a number in a list. -/
import Derived.Test.YtnlpmcgpdaifoaaDoorProg
import Derived.Test.YtnlpmcgpdaifoaaDoorLaws3
namespace Go.Proofs.YtnlpmcgpdaifoaaDoor
open Go.RowKit
set_option maxRecDepth 100000

theorem count_take (L : List Int) (x y : Int) (k : Nat) (h : L[k]? = some y) : (L.take (k + 1)).count x = (L.take k).count x + if y = x then 1 else 0 := by
  rw [List.take_add_one, h, Option.toList_some, List.count_append, List.count_singleton]
  by_cases e : y = x <;> simp [e]

set_option maxHeartbeats 800000 in
theorem count_any (A : Option Addr) (n c : Nat) (L : List Int) (x : Int) (w : World) (hL : Lies w I A L) (Hn : Hid (L.length = n)) (hn : n ≤ 17592186044416) :
    Calls Tryd.prog 15 #[.slice A n c, .int .i64 x] w fun e w' => e = .returned (.int .i64 (L.count x : Nat)) ∧ w' = w := by
  go_enter Tryd.func15, Tryd.ntmps15
  go_wp2
  go_loop [5, 6] (fun q i => ∃ k : Nat, k ≤ n ∧ i = .int .i64 k ∧ q = .int .i64 ((L.take k).count x : Nat)) (fun _ i => n - (intOf i).toNat)
  case atStart => exact ⟨0, Nat.zero_le _, rfl, rfl⟩
  case round =>
    obtain ⟨k, hk, rfl, rfl⟩ := hrel
    by_cases hlt : k < n
    · obtain ⟨b, o, y, hA, hbl, hy, hc⟩ := hL.at_ (i := k) (by rw [Hn.out]; exact hlt)
      subst hA
      have HS := Lib.hid (count_take L x y k hy)
      have hle : (L.take k).count x ≤ k := Nat.le_trans List.count_le_length (by rw [List.length_take]; omega)
      obtain ⟨v, hv⟩ : ∃ v, (L.take k).count x = v := ⟨_, rfl⟩
      rw [hv] at HS hle ⊢
      clear hy hv
      by_cases hyx : y = x
      · rw [if_pos hyx] at HS
        have he : (y == x) = true := by simpa using hyx
        go_wp2
        go_round
        case rel => exact ⟨k + 1, by omega, by go_num, by rw [HS.out]; go_num⟩
        case measure => simp [intOf]; omega
      · rw [if_neg hyx] at HS
        have he : (y == x) = false := by simpa using hyx
        go_wp2
        go_round
        case rel => exact ⟨k + 1, by omega, by go_num, by rw [HS.out]; go_num⟩
        case measure => simp [intOf]; omega
    · obtain rfl : k = n := by omega
      have HE : Hid ((L.take k).count x = L.count x) := Lib.hid (by rw [List.take_of_length_le (by rw [Hn.out]; exact Nat.le_refl _)])
      rw [HE.out]
      go_wp2
      go_ret
      exact ⟨rfl, rfl⟩

end Go.Proofs.YtnlpmcgpdaifoaaDoor
