/- Plain mathematics of the k-th occurrence in a list. -/
import Derived.Test.YtoehgcakfblblaaDoorWvMath3
namespace Go.Proofs.YtoehgcakfblblaaDoor

/-- The index of the k-th occurrence of x. -/
def selL (B : List Int) (x k : Int) : Int := if 0 ≤ k then (match (List.range B.length).find? fun i => decide (B[i]? = some x ∧ rankL B x i = k.toNat) with | some i => (i : Int) | none => -1) else -1

theorem rankL_step (B : List Int) (x y : Int) (i : Nat) (h : B[i]? = some y) : rankL B x (i + 1) = rankL B x i + if y = x then 1 else 0 := by
  unfold rankL
  rw [List.take_add_one, h, List.count_append, Option.toList_some, List.count_singleton]
  by_cases e : y = x
  · rw [if_pos e, if_pos (by simpa using e)]
  · rw [if_neg e, if_neg (by simpa using e)]
theorem rankL_mono (B : List Int) (x : Int) {i j : Nat} (h : i ≤ j) : rankL B x i ≤ rankL B x j := by
  unfold rankL
  have : B.take i = (B.take j).take i := by rw [List.take_take, Nat.min_eq_left h]
  rw [this]
  exact List.Sublist.count_le _ (List.take_sublist _ _)
theorem rankL_le (B : List Int) (x : Int) (i : Nat) : rankL B x i ≤ B.count x := by
  unfold rankL
  exact List.Sublist.count_le _ (List.take_sublist _ _)
theorem rankL_all (B : List Int) (x : Int) : rankL B x B.length = B.count x := by unfold rankL; rw [List.take_length]
theorem selL_neg (B : List Int) (x k : Int) (h : k < 0) : selL B x k = -1 := by unfold selL; rw [if_neg (by omega)]
theorem rankL_one {B : List Int} {x : Int} {i j : Nat} (hi : B[i]? = some x) (hj : B[j]? = some x) (h : rankL B x i = rankL B x j) : i = j := by
  have h1 := rankL_step B x x i hi
  have h2 := rankL_step B x x j hj
  rw [if_pos rfl] at h1 h2
  rcases Nat.lt_trichotomy i j with hlt | he | hlt
  · have := rankL_mono B x (show i + 1 ≤ j from hlt); omega
  · exact he
  · have := rankL_mono B x (show j + 1 ≤ i from hlt); omega
theorem selL_some (B : List Int) (x : Int) (i : Nat) (hb : B[i]? = some x) : selL B x (rankL B x i : Int) = i := by
  have hl : i < B.length := (List.getElem?_eq_some_iff.1 hb).1
  unfold selL
  rw [if_pos (by omega), Int.toNat_natCast]
  cases hf : (List.range B.length).find? fun j => decide (B[j]? = some x ∧ rankL B x j = rankL B x i) with
  | none =>
    have := List.find?_eq_none.1 hf i (List.mem_range.2 hl)
    simp [hb] at this
  | some j =>
    have := List.find?_some hf
    simp only [decide_eq_true_eq] at this
    rw [rankL_one this.1 hb this.2]
theorem selL_none (B : List Int) (x : Int) (k : Nat) (h : B.count x ≤ k) : selL B x (k : Int) = -1 := by
  unfold selL
  rw [if_pos (by omega), Int.toNat_natCast]
  cases hf : (List.range B.length).find? fun j => decide (B[j]? = some x ∧ rankL B x j = k) with
  | none => rfl
  | some j =>
    have := List.find?_some hf
    simp only [decide_eq_true_eq] at this
    have h1 := rankL_step B x x j this.1
    rw [if_pos rfl] at h1
    have h2 := rankL_le B x (j + 1)
    omega
theorem selL_reach (B : List Int) (x : Int) (k : Nat) : ∀ m, m ≤ B.length → k < rankL B x m → ∃ i, i < m ∧ B[i]? = some x ∧ rankL B x i = k
  | 0, _, h => by simp [rankL] at h
  | m + 1, hm, h => by
    obtain ⟨y, hy⟩ : ∃ y, B[m]? = some y := ⟨B[m]'(by omega), List.getElem?_eq_getElem (by omega)⟩
    have h1 := rankL_step B x y m hy
    by_cases hlt : k < rankL B x m
    · obtain ⟨i, hi, h2⟩ := selL_reach B x k m (by omega) hlt
      exact ⟨i, by omega, h2⟩
    · by_cases e : y = x
      · rw [if_pos e] at h1
        exact ⟨m, by omega, by rw [hy, e], by omega⟩
      · rw [if_neg e] at h1
        omega

section
variable {n : Nat} {Ls : List (List Nat)} (hl : Ls.length = 9)
include hl
theorem sel_out (x : Int) (k : Nat) (hx : x < 0 ∨ 511 < x) : selL (listW n Ls) x (k : Int) = -1 := by
  apply selL_none
  rw [← rankL_all, listW_len, rank_out hl x n hx (Nat.le_refl _)]
  exact Nat.zero_le _
theorem sel_few (x k : Nat) (hx : x < 512) (h : plW n Ls x n ≤ plW n Ls x 0 + k) : selL (listW n Ls) (x : Int) (k : Int) = -1 := by
  apply selL_none
  rw [← rankL_all, listW_len]
  have := rank_is hl x n hx (Nat.le_refl _)
  omega
theorem sel_path (x k : Nat) (hx : x < 512) (h : plW n Ls x 0 + k < plW n Ls x n) : ∃ J : Nat → Nat, selL (listW n Ls) (x : Int) (k : Int) = J 0 ∧ J 9 = plW n Ls x 0 + k ∧ (∀ j, J j < n) ∧ ∀ j L, Ls[j]? = some L → bitN L (J j) = x / 2 ^ (8 - j) % 2 ∧ J (j + 1) = dn n L (x / 2 ^ (8 - j) % 2) (J j) := by
  have h0 := rank_is hl x n hx (Nat.le_refl _)
  obtain ⟨i, hi, hb, hr⟩ := selL_reach (listW n Ls) (x : Int) k n (by rw [listW_len]; exact Nat.le_refl _) (by omega)
  have hx2 : numW n Ls i = x := by
    rw [listW_get n Ls i hi] at hb
    have := Option.some.inj hb
    omega
  obtain ⟨J, h1, h2, h3, h4⟩ := path_of n Ls x i hi (by rw [hx2, hl]; exact (Nat.mod_eq_of_lt hx).symm)
  rw [hl] at h2 h4
  have h5 := rank_is hl x i hx (Nat.le_of_lt hi)
  refine ⟨J, ?_, ?_, h3, h4⟩
  · rw [h1, ← hr]
    exact selL_some _ _ _ hb
  · rw [h2]
    omega
end

end Go.Proofs.YtoehgcakfblblaaDoor
