/- The rows of a word are its occurrences; the laws' count. -/
import Derived.Test.YtlgnndfhpnbhmaaSfR3
import Derived.Test.YtlgnndfhpnbhmaaSfR4
import Derived.Test.YtlgnndfhpnbhmaaSfD4
namespace Go.Proofs.Ytlgnndfhpnbhmaa
open Go.RowKit
set_option maxRecDepth 100000

theorem count_init (m : Nat) (p : Nat → Bool) (hmono : ∀ a b, a ≤ b → b < m → p a = true → p b = true) : ∀ j, j < m → (j < (List.range m).countP (fun i => !p i) ↔ p j = false) := by
  induction m with
  | zero => intro j hj; omega
  | succ m ih =>
    have ih2 := ih fun a b hab hb => hmono a b hab (by omega)
    have hle : (List.range m).countP (fun i => !p i) ≤ m := Nat.le_trans List.countP_le_length (by simp)
    have hc : (List.range (m + 1)).countP (fun i => !p i) = (List.range m).countP (fun i => !p i) + if p m = false then 1 else 0 := by
      rw [List.range_succ, List.countP_append]
      cases h : p m <;> simp [h]
    intro j hj
    rw [hc]
    by_cases hm : p m = false
    · have hall : ∀ i, i ≤ m → p i = false := fun i hi => by
        cases h : p i
        · rfl
        · have := hmono i m hi (by omega) h
          rw [hm] at this
          cases this
      have hcm : (List.range m).countP (fun i => !p i) = m := by
        have : (List.range m).countP (fun i => !p i) = (List.range m).length := List.countP_eq_length.2 fun i hi => by
          have := List.mem_range.1 hi
          rw [hall i (by omega)]
          rfl
        simpa using this
      rw [if_pos hm, hcm]
      exact ⟨fun _ => hall j (by omega), fun _ => by omega⟩
    · rw [if_neg hm, Nat.add_zero]
      by_cases hjm : j < m
      · exact ih2 j hjm
      · obtain rfl : j = m := by omega
        exact ⟨fun h => by omega, fun h => absurd h hm⟩

theorem row_in {L P : List Nat} {u : Nat} (hu : u ≤ L.length) (ho : (L.drop u).take P.length = P) : ∃ k, (sfx L)[k]? = some u ∧ loN L P ≤ k ∧ k < loN L P + (occK L P (L.length + 1)).length := by
  obtain ⟨k, hk, e⟩ := List.getElem_of_mem (sfx_mem.2 hu)
  have hk2 : k < L.length + 1 := by rw [sfx_len] at hk; exact hk
  have hside : sideV L P k = 0 := by
    unfold sideV
    rw [getD_at hk, e]
    exact (lcmp_word_eq _ _).2 ho
  refine ⟨k, by rw [List.getElem?_eq_getElem hk, e], ?_, ?_⟩
  · have h := count_init (L.length + 1) (fun k => decide (0 ≤ sideV L P k)) (fun a b hab hb h => side_ge hab hb h) k hk2
    rw [count_lo] at h
    refine Classical.byContradiction fun hc => ?_
    have := h.1 (by omega)
    rw [hside] at this
    simp at this
  · have h := count_init (L.length + 1) (fun k => decide (0 < sideV L P k)) (fun a b hab hb h => side_gt hab hb h) k hk2
    rw [count_hi] at h
    exact h.2 (by rw [hside]; rfl)

theorem occ_at {L P : List Nat} {i : Nat} {z : Int} (h : (occK L P (L.length + 1))[i]? = some z) : ∃ u : Nat, z = (u : Int) ∧ u ≤ L.length ∧ (L.drop u).take P.length = P := by
  have hm := List.mem_of_getElem? h
  unfold occK at hm
  obtain ⟨u, hu, rfl⟩ := List.mem_map.1 hm
  rw [List.mem_filter, List.mem_range] at hu
  exact ⟨u, rfl, by omega, by simpa using hu.2⟩
theorem occ_lt {L P : List Nat} {k i j : Nat} {y z : Int} (hi : (occK L P k)[i]? = some y) (hj : (occK L P k)[j]? = some z) (hij : i < j) : y < z := by
  have hp : (occK L P k).Pairwise (· < ·) := by
    unfold occK
    refine List.pairwise_map.2 ?_
    exact List.Pairwise.imp (fun h => Int.ofNat_lt.2 h) (List.Pairwise.filter _ List.pairwise_lt_range)
  obtain ⟨h1, rfl⟩ := List.getElem?_eq_some_iff.1 hi
  obtain ⟨h2, rfl⟩ := List.getElem?_eq_some_iff.1 hj
  exact List.pairwise_iff_getElem.1 hp i j h1 h2 hij

/-- Each occurrence is in the rows of the word once. -/
theorem count_one {L P : List Nat} {u hi : Nat} (hu : u ≤ L.length) (ho : (L.drop u).take P.length = P) (hhi : hi = loN L P + (occK L P (L.length + 1)).length) : ((((sfx L).map Int.ofNat).drop (loN L P)).take (hi - loN L P)).count (u : Int) = 1 := by
  obtain ⟨k, hk, h1, h2⟩ := row_in hu ho
  have hn : ((sfx L).map Int.ofNat).Nodup := by
    have h := (sfx_is L).1.nodup_iff.2 List.nodup_range
    rw [List.nodup_iff_pairwise_ne] at h ⊢
    exact List.pairwise_map.2 (h.imp fun hne e => hne (Int.ofNat.inj e))
  have hn2 : ((((sfx L).map Int.ofNat).drop (loN L P)).take (hi - loN L P)).Nodup := (hn.sublist (List.drop_sublist _ _)).sublist (List.take_sublist _ _)
  have hm : (u : Int) ∈ (((sfx L).map Int.ofNat).drop (loN L P)).take (hi - loN L P) := by
    refine List.mem_of_getElem? (i := k - loN L P) ?_
    rw [List.getElem?_take, if_pos (by omega), List.getElem?_drop, show loN L P + (k - loN L P) = k by omega]
    exact ofNat_at hk
  rw [hn2.count, if_pos hm]

theorem slice_midI {P : Program} {T : TypeId} (ht : P.underlying T = some (.slice (P.elem T))) (hz : ∀ W : World, (sizeOf (P.elem T)).run P W = .ok 1 W) (b o n c : Nat) (L : List Int) (i j : Nat) (w : World) (Hn : Hid (L.length = n)) (hL : Lies w I (some ⟨b, o, none⟩) L) (hij : i ≤ j) (hj : j ≤ n) (hc : n ≤ c) :
    ∃ o', (∀ W : World, (Instr.slice T (.slice (some ⟨b, o, none⟩) n c) (some (.int .i64 (i : Int))) (some (.int .i64 (j : Int))) none).run P W = .ok (.slice (some ⟨b, o', none⟩) ((L.drop i).take (j - i)).length (c - i)) W) ∧ Lies w I (some ⟨b, o', none⟩) ((L.drop i).take (j - i)) := by
  have hn := Hn.out
  have e : ((L.drop i).take (j - i)).length = j - i := by rw [List.length_take, List.length_drop, hn]; omega
  rw [e]
  by_cases hct : c = i
  · refine ⟨o, fun W => ?_, ?_⟩
    · rw [run_slice_lh (P := P) W T _ n c ht .i64 .i64 (i : Int) (j : Int) (by omega) (by omega) (by omega), Int.toNat_natCast, Int.toNat_natCast, hz]
      simp [Result.andThen, sliced, hct]
    · have : (L.drop i).take (j - i) = [] := List.length_eq_zero_iff.1 (by omega)
      rw [this]
      exact Lies.nil_
  · refine ⟨o + i, fun W => ?_, hL.piece i (j - i)⟩
    rw [run_slice_lh (P := P) W T _ n c ht .i64 .i64 (i : Int) (j : Int) (by omega) (by omega) (by omega), Int.toNat_natCast, Int.toNat_natCast, hz]
    simp [Result.andThen, sliced, hct, Addr.add]

theorem count_take (L : List Int) (x y : Int) (k : Nat) (h : L[k]? = some y) : (L.take (k + 1)).count x = (L.take k).count x + if y = x then 1 else 0 := by
  rw [List.take_add_one, h, Option.toList_some, List.count_append, List.count_singleton]
  by_cases e : y = x <;> simp [e]

set_option maxHeartbeats 800000 in
theorem count_any (A : Option Addr) (n c : Nat) (L : List Int) (x : Int) (w : World) (hL : Lies w I A L) (Hn : Hid (L.length = n)) (hn : n ≤ 17592186044416) :
    Calls Try.prog 28 #[.slice A n c, .int .i64 x] w fun e w' => e = .returned (.int .i64 (L.count x : Nat)) ∧ w' = w := by
  go_enter Try.func28, Try.ntmps28
  go_wp2
  go_loop [5, 6] (fun q i => ∃ k : Nat, k ≤ n ∧ i = .int .i64 k ∧ q = .int .i64 ((L.take k).count x : Nat)) (fun _ i => n - (intOf i).toNat)
  case atStart => exact ⟨0, Nat.zero_le _, rfl, rfl⟩
  case round =>
    obtain ⟨k, hk, rfl, rfl⟩ := hrel
    by_cases hlt : k < n
    · obtain ⟨b, o, y, hA, hbl, hy, hc⟩ := hL.at_ (i := k) (by rw [Hn.out]; exact hlt)
      subst hA
      have HS := Lib.hid (count_take L x y k hy)
      have hle : (L.take k).count x ≤ k := Nat.le_trans List.count_le_length (by rw [List.length_take]; omega)
      obtain ⟨v, hv⟩ : ∃ v, (L.take k).count x = v := ⟨_, rfl⟩
      rw [hv] at HS hle ⊢
      clear hy hv
      by_cases hyx : y = x
      · rw [if_pos hyx] at HS
        have he : (y == x) = true := by simpa using hyx
        go_wp2
        go_round
        case rel => exact ⟨k + 1, by omega, by go_num, by rw [HS.out]; go_num⟩
        case measure => simp [intOf]; omega
      · rw [if_neg hyx] at HS
        have he : (y == x) = false := by simpa using hyx
        go_wp2
        go_round
        case rel => exact ⟨k + 1, by omega, by go_num, by rw [HS.out]; go_num⟩
        case measure => simp [intOf]; omega
    · obtain rfl : k = n := by omega
      have HE : Hid ((L.take k).count x = L.count x) := Lib.hid (by rw [List.take_of_length_le (by rw [Hn.out]; exact Nat.le_refl _)])
      rw [HE.out]
      go_wp2
      go_ret
      exact ⟨rfl, rfl⟩

end Go.Proofs.Ytlgnndfhpnbhmaa
