/- Plain mathematics: the wavelet matrix level by level, as the program's loops go. Nothing of the program and nothing of the model stands here. -/
import Derived.Test.YtoehgcakfblblaaDoorWvMath2
namespace Go.Proofs.YtoehgcakfblblaaDoor

section
variable {Ls : List (List Nat)} {k : Nat} {L : List Nat} (hl : Ls.length = 9) (h : Ls[k]? = some L)
include hl h
theorem lv_cons : k < 9 ∧ Ls.drop k = L :: Ls.drop (k + 1) ∧ (Ls.drop (k + 1)).length = 8 - k := by
  obtain ⟨hk, e⟩ := List.getElem?_eq_some_iff.1 h
  refine ⟨by omega, ?_, by rw [List.length_drop]; omega⟩
  rw [List.drop_eq_getElem_cons hk, e]
theorem num_step (n y i : Nat) : y * 2 ^ (9 - k) + numW n (Ls.drop k) i = (2 * y + bitN L i) * 2 ^ (8 - k) + numW n (Ls.drop (k + 1)) (dn n L (bitN L i) i) := by
  obtain ⟨h1, h2, h3⟩ := lv_cons hl h
  rw [h2, numW, h3, show 9 - k = (8 - k) + 1 by omega, Nat.pow_succ, Nat.add_mul, Nat.mul_comm 2 y, Nat.mul_assoc, Nat.mul_comm 2]
  omega
theorem place_step (n x i : Nat) : plW n (Ls.drop k) x i = plW n (Ls.drop (k + 1)) x (dn n L (x / 2 ^ (8 - k) % 2) i) := by
  obtain ⟨h1, h2, h3⟩ := lv_cons hl h
  rw [h2, plW, h3]
theorem less_step (n x lo hi : Nat) : lessW n (Ls.drop k) x lo hi = (if x / 2 ^ (8 - k) % 2 = 1 then cnt L 0 hi - cnt L 0 lo else 0) + lessW n (Ls.drop (k + 1)) x (dn n L (x / 2 ^ (8 - k) % 2) lo) (dn n L (x / 2 ^ (8 - k) % 2) hi) := by
  obtain ⟨h1, h2, h3⟩ := lv_cons hl h
  rw [h2, lessW, h3]
theorem kth_low (n y lo hi j : Nat) (hj : j < cnt L 0 hi - cnt L 0 lo) : y * 2 ^ (9 - k) + kthW n (Ls.drop k) lo hi j = (2 * y + 0) * 2 ^ (8 - k) + kthW n (Ls.drop (k + 1)) (dn n L 0 lo) (dn n L 0 hi) j := by
  obtain ⟨h1, h2, h3⟩ := lv_cons hl h
  rw [h2, kthW, if_pos hj, show 9 - k = (8 - k) + 1 by omega, Nat.pow_succ, Nat.add_mul, Nat.mul_comm 2 y, Nat.mul_assoc, Nat.mul_comm 2]
  omega
theorem kth_high (n y lo hi j : Nat) (hj : ¬ j < cnt L 0 hi - cnt L 0 lo) : y * 2 ^ (9 - k) + kthW n (Ls.drop k) lo hi j = (2 * y + 1) * 2 ^ (8 - k) + kthW n (Ls.drop (k + 1)) (dn n L 1 lo) (dn n L 1 hi) (j - (cnt L 0 hi - cnt L 0 lo)) := by
  obtain ⟨h1, h2, h3⟩ := lv_cons hl h
  rw [h2, kthW, if_neg hj, h3, show 9 - k = (8 - k) + 1 by omega, Nat.pow_succ, Nat.add_mul, Nat.mul_comm 2 y, Nat.mul_assoc, Nat.mul_comm 2]
  omega
end
theorem lv_end {Ls : List (List Nat)} (hl : Ls.length = 9) : Ls.drop 9 = [] := List.drop_eq_nil_of_le (by omega)

/-- What is counted of a list. -/
def rankL (B : List Int) (x : Int) (i : Nat) : Nat := (B.take i).count x
def lessL (B : List Int) (x : Int) (lo hi : Nat) : Nat := ((B.take hi).drop lo).countP fun y => decide (y < x)

theorem cp_countP (n : Nat) (Ls : List (List Nat)) (p : Int → Bool) : ∀ i, i ≤ n → ((listW n Ls).take i).countP p = cp (fun j => p (numW n Ls j : Int)) i
  | 0, _ => by simp [cp]
  | i + 1, h => by
    rw [List.take_add_one, listW_get n Ls i (by omega), Option.toList_some, List.countP_append, cp_countP n Ls p i (by omega), cp, List.countP_singleton]
theorem countP_piece (B : List Int) (p : Int → Bool) {lo hi : Nat} (h : lo ≤ hi) : (B.take hi).countP p = (B.take lo).countP p + ((B.take hi).drop lo).countP p := by
  have e : (B.take hi).take lo = B.take lo := by rw [List.take_take, Nat.min_eq_left h]
  rw [← e, ← List.countP_append, List.take_append_drop]

section
variable {n : Nat} {Ls : List (List Nat)} (hl : Ls.length = 9)
include hl
theorem num_511 (i : Nat) : numW n Ls i < 512 := by
  have := numW_lt n Ls i
  rw [hl] at this
  omega
theorem rank_is (x i : Nat) (hx : x < 512) (hi : i ≤ n) : rankL (listW n Ls) x i + plW n Ls x 0 = plW n Ls x i := by
  have h := rank_place n Ls x i
  rw [hl, Nat.mod_eq_of_lt (by omega)] at h
  rw [← h, rankL, List.count_eq_countP, cp_countP n Ls _ i hi]
  congr 1
  apply cp_congr
  intro j _
  rw [Bool.eq_iff_iff, beq_iff_eq, decide_eq_true_iff]
  omega
theorem rank_out (x : Int) (i : Nat) (hx : x < 0 ∨ 511 < x) (hi : i ≤ n) : rankL (listW n Ls) x i = 0 := by
  rw [rankL, List.count_eq_countP, cp_countP n Ls _ i hi]
  apply cp_none
  intro j _
  have := num_511 (n := n) hl j
  rw [beq_eq_false_iff_ne]
  omega
theorem less_is (x lo hi : Nat) (hx : x < 512) (hle : lo ≤ hi) (hi' : hi ≤ n) : lessL (listW n Ls) x lo hi = lessW n Ls x lo hi := by
  have h := less_count n Ls x lo hi hle
  rw [hl, Nat.mod_eq_of_lt (by omega)] at h
  have h2 := countP_piece (listW n Ls) (fun y => decide (y < (x : Int))) hle
  rw [cp_countP n Ls _ hi hi', cp_countP n Ls _ lo (by omega)] at h2
  have e : ∀ i, cp (fun j => decide ((numW n Ls j : Int) < (x : Int))) i = cp (fun j => decide (numW n Ls j < x)) i := fun i => cp_congr fun j _ => by rw [decide_eq_decide]; omega
  rw [e, e] at h2
  unfold lessL
  omega
theorem less_big (x : Int) (lo hi : Nat) (hx : 512 ≤ x) (hle : lo ≤ hi) (hi' : hi ≤ n) : lessL (listW n Ls) x lo hi = hi - lo := by
  have h2 := countP_piece (listW n Ls) (fun y => decide (y < x)) hle
  rw [cp_countP n Ls _ hi hi', cp_countP n Ls _ lo (by omega)] at h2
  have e : ∀ i, cp (fun j => decide ((numW n Ls j : Int) < x)) i = i := fun i => cp_all fun j _ => by
    have := num_511 (n := n) hl j
    simp
    omega
  rw [e, e] at h2
  unfold lessL
  omega
theorem less_neg (x : Int) (lo hi : Nat) (hx : x ≤ 0) (hle : lo ≤ hi) (hi' : hi ≤ n) : lessL (listW n Ls) x lo hi = lessW n Ls 0 lo hi := by
  have h0 := less_is hl 0 lo hi (by omega) hle hi'
  rw [← h0]
  unfold lessL
  apply List.countP_congr
  intro y hy
  have hy2 : y ∈ listW n Ls := List.mem_of_mem_take (List.mem_of_mem_drop hy)
  unfold listW at hy2
  obtain ⟨j, _, rfl⟩ := List.mem_map.1 hy2
  simp
  omega

/-- The k-th smallest of a list, by what is less and what is at most as great. -/
theorem kth_list (lo hi k : Nat) (hk : lo + k < hi) (hi' : hi ≤ n) : kthW n Ls lo hi k < 512 ∧ lessL (listW n Ls) (kthW n Ls lo hi k) lo hi ≤ k ∧ k < lessL (listW n Ls) (kthW n Ls lo hi k + 1 : Nat) lo hi := by
  obtain ⟨h1, h2, h3⟩ := kth_is n Ls lo hi k hk
  rw [hl] at h1
  generalize kthW n Ls lo hi k = x at *
  have g : ∀ y : Nat, cp (fun j => decide (numW n Ls j < y)) hi = cp (fun j => decide (numW n Ls j < y)) lo + lessL (listW n Ls) y lo hi := fun y => by
    have h2 := countP_piece (listW n Ls) (fun z => decide (z < (y : Int))) (show lo ≤ hi by omega)
    rw [cp_countP n Ls _ hi hi', cp_countP n Ls _ lo (by omega)] at h2
    have e : ∀ i, cp (fun j => decide ((numW n Ls j : Int) < (y : Int))) i = cp (fun j => decide (numW n Ls j < y)) i := fun i => cp_congr fun j _ => by rw [decide_eq_decide]; omega
    rw [e, e] at h2
    exact h2
  have g1 := g x
  have g2 := g (x + 1)
  exact ⟨by omega, by omega, by omega⟩
end

end Go.Proofs.YtoehgcakfblblaaDoor
