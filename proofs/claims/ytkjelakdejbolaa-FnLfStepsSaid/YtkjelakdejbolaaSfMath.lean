/- The order of lists of bytes, and the sorted suffixes of a text. Nothing of the program stands here. -/
import Derived.Test.YtkjelakdejbolaaMem
import Derived.Lib.Small
namespace Go.Proofs.Ytkjelakdejbolaa
open Go.RowKit

/-- How two lists of bytes compare. -/
def lcmp : List Nat → List Nat → Int
  | [], [] => 0
  | [], _ :: _ => -1
  | _ :: _, [] => 1
  | a :: us, b :: vs => if a < b then -1 else if b < a then 1 else lcmp us vs

theorem lcmp_vals : ∀ a b : List Nat, lcmp a b = -1 ∨ lcmp a b = 0 ∨ lcmp a b = 1
  | [], [] => .inr (.inl rfl)
  | [], _ :: _ => .inl rfl
  | _ :: _, [] => .inr (.inr rfl)
  | a :: us, b :: vs => by
    unfold lcmp
    split
    · exact .inl rfl
    · split
      · exact .inr (.inr rfl)
      · exact lcmp_vals us vs

theorem lcmp_cons (a b : Nat) (us vs : List Nat) : lcmp (a :: us) (b :: vs) = if a < b then -1 else if b < a then 1 else lcmp us vs := rfl

theorem lcmp_self : ∀ a : List Nat, lcmp a a = 0
  | [] => rfl
  | a :: us => by
    unfold lcmp
    rw [if_neg (by omega), if_neg (by omega)]
    exact lcmp_self us

theorem lcmp_swap : ∀ a b : List Nat, lcmp b a = - lcmp a b
  | [], [] => rfl
  | [], _ :: _ => rfl
  | _ :: _, [] => rfl
  | a :: us, b :: vs => by
    unfold lcmp
    by_cases h1 : a < b
    · rw [if_pos h1, if_neg (by omega), if_pos h1]; rfl
    · by_cases h2 : b < a
      · rw [if_pos h2, if_neg h1, if_pos h2]
      · rw [if_neg h2, if_neg h1, if_neg h1, if_neg h2]
        exact lcmp_swap us vs

theorem lcmp_eq : ∀ {a b : List Nat}, lcmp a b = 0 → a = b
  | [], [], _ => rfl
  | [], _ :: _, h => by simp [lcmp] at h
  | _ :: _, [], h => by simp [lcmp] at h
  | a :: us, b :: vs, h => by
    unfold lcmp at h
    split at h
    · omega
    · split at h
      · omega
      · rw [lcmp_eq h, show a = b by omega]

theorem lcmp_le_trans : ∀ {a b c : List Nat}, lcmp a b ≤ 0 → lcmp b c ≤ 0 → lcmp a c ≤ 0
  | [], _, [], _, _ => by simp [lcmp]
  | [], _, _ :: _, _, _ => by simp [lcmp]
  | _ :: _, [], _, h, _ => by simp [lcmp] at h
  | _ :: _, _ :: _, [], _, h => by simp [lcmp] at h
  | a :: us, b :: vs, c :: ws, h1, h2 => by
    unfold lcmp at h1 h2 ⊢
    by_cases h3 : a < c
    · rw [if_pos h3]; omega
    · rw [if_neg h3]
      by_cases h4 : a < b
      · rw [if_neg (show ¬ b < c by omega), if_pos (show c < b by omega)] at h2; omega
      · rw [if_neg h4] at h1
        by_cases h5 : b < a
        · rw [if_pos h5] at h1; omega
        · rw [if_neg h5] at h1
          obtain rfl : a = b := by omega
          rw [if_neg h3] at h2
          by_cases h6 : c < a
          · rw [if_pos h6] at h2; omega
          · rw [if_neg h6] at h2 ⊢
            exact lcmp_le_trans h1 h2

theorem lcmp_lt_le {a b c : List Nat} (h1 : lcmp a b < 0) (h2 : lcmp b c ≤ 0) : lcmp a c < 0 := by
  have h := lcmp_le_trans (show lcmp a b ≤ 0 by omega) h2
  by_cases h0 : lcmp a c = 0
  · obtain rfl := lcmp_eq h0
    rw [lcmp_swap] at h2
    omega
  · omega
theorem lcmp_le_lt {a b c : List Nat} (h1 : lcmp a b ≤ 0) (h2 : lcmp b c < 0) : lcmp a c < 0 := by
  have h := lcmp_le_trans h1 (show lcmp b c ≤ 0 by omega)
  by_cases h0 : lcmp a c = 0
  · obtain rfl := lcmp_eq h0
    rw [lcmp_swap] at h1
    omega
  · omega

/-- The beginnings decide, and where these are the same, the rest. -/
theorem lcmp_split : ∀ (s : Nat) (a b : List Nat), lcmp a b = if lcmp (a.take s) (b.take s) = 0 then lcmp (a.drop s) (b.drop s) else lcmp (a.take s) (b.take s)
  | 0, a, b => by simp [lcmp]
  | s + 1, [], [] => by simp [lcmp]
  | s + 1, [], _ :: _ => by simp [lcmp]
  | s + 1, _ :: _, [] => by simp [lcmp]
  | s + 1, a :: us, b :: vs => by
    simp only [List.take_succ_cons, List.drop_succ_cons, lcmp_cons]
    by_cases h1 : a < b
    · simp [h1]
    · by_cases h2 : b < a
      · simp [h1, h2]
      · simp only [h1, h2, if_false]
        exact lcmp_split s us vs

theorem lcmp_take_two (s m : Nat) (a b : List Nat) : lcmp (a.take (s + m)) (b.take (s + m)) = if lcmp (a.take s) (b.take s) = 0 then lcmp ((a.drop s).take m) ((b.drop s).take m) else lcmp (a.take s) (b.take s) := by
  have h := lcmp_split s (a.take (s + m)) (b.take (s + m))
  have e : ∀ l : List Nat, (l.take (s + m)).take s = l.take s := fun l => by rw [List.take_take, Nat.min_eq_left (by omega)]
  have e2 : ∀ l : List Nat, (l.take (s + m)).drop s = (l.drop s).take m := fun l => by rw [List.drop_take, Nat.add_sub_cancel_left]
  rw [e, e, e2, e2] at h
  exact h

theorem lcmp_take_le {a b : List Nat} (s : Nat) (h : lcmp a b ≤ 0) : lcmp (a.take s) (b.take s) ≤ 0 := by
  rw [lcmp_split s a b] at h
  split at h <;> omega
theorem lcmp_of_take_lt {a b : List Nat} {s : Nat} (h : lcmp (a.take s) (b.take s) < 0) : lcmp a b < 0 := by
  rw [lcmp_split s a b, if_neg (by omega)]
  exact h

/-- Compared with a word: the beginning of the word's length decides, but where it is the word. -/
theorem lcmp_word_lt (x p : List Nat) : lcmp (x.take p.length) p < 0 ↔ lcmp x p < 0 := by
  have h := lcmp_split p.length x p
  rw [List.take_of_length_le (Nat.le_refl _), List.drop_of_length_le (Nat.le_refl _)] at h
  constructor
  · intro h1
    rw [h, if_neg (by omega)]
    exact h1
  · intro h1
    rw [h] at h1
    split at h1
    · cases hd : x.drop p.length with
      | nil => rw [hd] at h1; simp [lcmp] at h1
      | cons y r => rw [hd] at h1; simp [lcmp] at h1
    · exact h1
theorem lcmp_word_eq (x p : List Nat) : lcmp (x.take p.length) p = 0 ↔ x.take p.length = p := ⟨lcmp_eq, fun h => by rw [h, lcmp_self]⟩

/-! ### Sorted suffixes -/

/-- The numbers of the suffixes, each once, in ascending order of the suffixes. -/
def IsSfx (t M : List Nat) : Prop := M.Perm (List.range (t.length + 1)) ∧ M.Pairwise (fun i j => lcmp (t.drop i) (t.drop j) < 0)
def sfx (t : List Nat) : List Nat := (List.range (t.length + 1)).mergeSort (fun i j => decide (lcmp (t.drop i) (t.drop j) ≤ 0))

theorem drop_inj {t : List Nat} {i j : Nat} (hi : i ≤ t.length) (hj : j ≤ t.length) (h : t.drop i = t.drop j) : i = j := by
  have := congrArg List.length h
  simp at this
  omega

theorem sfx_is (t : List Nat) : IsSfx t (sfx t) := by
  have hp : (sfx t).Perm (List.range (t.length + 1)) := List.mergeSort_perm _ _
  refine ⟨hp, ?_⟩
  have hs : (sfx t).Pairwise (fun i j => decide (lcmp (t.drop i) (t.drop j) ≤ 0) = true) := List.pairwise_mergeSort (fun a b c h1 h2 => by
    simp only [decide_eq_true_iff] at *
    exact lcmp_le_trans h1 h2) (fun a b => by
    have := lcmp_swap (t.drop a) (t.drop b)
    simp only [Bool.or_eq_true, decide_eq_true_iff]
    omega) _
  have hn : (sfx t).Nodup := hp.nodup_iff.2 List.nodup_range
  have hm : ∀ x ∈ sfx t, x ≤ t.length := fun x hx => by
    have := List.mem_range.1 (hp.mem_iff.1 hx)
    omega
  rw [List.pairwise_iff_getElem] at hs ⊢
  intro i j hi hj hij
  have h := hs i j hi hj hij
  simp only [decide_eq_true_iff] at h
  by_cases h0 : lcmp (t.drop (sfx t)[i]) (t.drop (sfx t)[j]) = 0
  · have e := drop_inj (hm _ (List.getElem_mem hi)) (hm _ (List.getElem_mem hj)) (lcmp_eq h0)
    have := (List.getElem_inj hn).1 e
    omega
  · omega

theorem IsSfx.eq {t M : List Nat} (h : IsSfx t M) : M = sfx t := by
  have h2 := sfx_is t
  refine List.Perm.eq_of_pairwise (le := fun i j => lcmp (t.drop i) (t.drop j) < 0) ?_ h.2 h2.2 (h.1.trans h2.1.symm)
  intro a b _ _ h3 h4
  rw [lcmp_swap] at h4
  omega

theorem sfx_len (t : List Nat) : (sfx t).length = t.length + 1 := by
  rw [(sfx_is t).1.length_eq, List.length_range]
theorem sfx_mem {t : List Nat} {x : Nat} : x ∈ sfx t ↔ x ≤ t.length := by
  rw [(sfx_is t).1.mem_iff, List.mem_range]
  omega
theorem sfx_at {t : List Nat} {k : Nat} (h : k ≤ t.length) : ∃ x, (sfx t)[k]? = some x ∧ x ≤ t.length := by
  have hk : k < (sfx t).length := by rw [sfx_len]; omega
  exact ⟨_, List.getElem?_eq_getElem hk, sfx_mem.1 (List.getElem_mem hk)⟩

/-! ### By doubling: ranks of the suffixes by their first bytes -/

/-- Two numbers compared. -/
abbrev cmpI (x y : Int) : Int := Lib.compareInt x y
theorem cmpI_zero {x y : Int} : cmpI x y = 0 ↔ x = y := by
  unfold cmpI Lib.compareInt
  constructor
  · intro h
    split at h
    · omega
    · split at h <;> omega
  · rintro rfl
    simp
theorem cmpI_lt {x y : Int} (h : x < y) : cmpI x y = -1 := by
  unfold cmpI Lib.compareInt
  rw [if_pos h]
theorem cmpI_gt {x y : Int} (h : y < x) : cmpI x y = 1 := by
  unfold cmpI Lib.compareInt
  rw [if_neg (by omega), if_pos h]

/-- R ranks the suffixes of t by their first s bytes. -/
def Ranks (t : List Nat) (s : Nat) (R : Nat → Int) : Prop :=
  ∀ i j, i ≤ t.length → j ≤ t.length → cmpI (R i) (R j) = lcmp ((t.drop i).take s) ((t.drop j).take s)

/-- The order by twice us many bytes. -/
def cfD (t : List Nat) (s : Nat) (R : Nat → Int) (i j : Nat) : Int :=
  if cmpI (R i) (R j) = 0 then cmpI (R (min (i + s) t.length)) (R (min (j + s) t.length)) else cmpI (R i) (R j)
theorem cfD_is {t : List Nat} {s : Nat} {R : Nat → Int} (h : Ranks t s R) {i j : Nat} (hi : i ≤ t.length) (hj : j ≤ t.length) :
    cfD t s R i j = lcmp ((t.drop i).take (s + s)) ((t.drop j).take (s + s)) := by
  have e : ∀ i, t.drop (min (i + s) t.length) = (t.drop i).drop s := fun i => by
    rw [List.drop_drop]
    rcases Nat.le_total (i + s) t.length with h | h
    · rw [Nat.min_eq_left h]
    · rw [Nat.min_eq_right h, List.drop_of_length_le (Nat.le_refl _), List.drop_of_length_le h]
  unfold cfD
  rw [lcmp_take_two, h i j hi hj, h _ _ (Nat.min_le_right _ _) (Nat.min_le_right _ _), e, e]

theorem lcmp_one (a b : List Nat) : lcmp (a.take 1) (b.take 1) = cmpI (match a with | [] => 0 | x :: _ => (x : Int) + 1) (match b with | [] => 0 | x :: _ => (x : Int) + 1) := by
  cases a with
  | nil =>
    cases b with
    | nil => rfl
    | cons y r =>
      show lcmp [] [y] = cmpI 0 ((y : Int) + 1)
      rw [cmpI_lt (by omega)]; rfl
  | cons x q =>
    cases b with
    | nil =>
      show lcmp [x] [] = cmpI ((x : Int) + 1) 0
      rw [cmpI_gt (by omega)]; rfl
    | cons y r =>
      show lcmp [x] [y] = cmpI ((x : Int) + 1) ((y : Int) + 1)
      unfold lcmp
      by_cases h1 : x < y
      · rw [if_pos h1, cmpI_lt (by omega)]
      · by_cases h2 : y < x
        · rw [if_neg h1, if_pos h2, cmpI_gt (by omega)]
        · rw [if_neg h1, if_neg h2, cmpI_zero.2 (by omega)]
          rfl

/-- The ranks by one byte. -/
def rkB (t : List Nat) (i : Nat) : Int := match t[i]? with | none => 0 | some x => (x : Int) + 1
theorem rkB_ranks (t : List Nat) : Ranks t 1 (rkB t) := by
  intro i j hi hj
  rw [lcmp_one]
  have e : ∀ i, rkB t i = (match t.drop i with | [] => 0 | x :: _ => (x : Int) + 1) := fun i => by
    unfold rkB
    rw [← List.head?_drop]
    cases t.drop i <;> rfl
  rw [e, e]

/-- How many neighbours are told apart before row k. -/
def incs (C : Nat → Nat → Int) (M : List Nat) : Nat → Nat
  | 0 => 0
  | k + 1 => incs C M k + if C (M.getD k 0) (M.getD (k + 1) 0) = 0 then 0 else 1

theorem incs_le (C : Nat → Nat → Int) (M : List Nat) : ∀ k, incs C M k ≤ k
  | 0 => Nat.le_refl _
  | k + 1 => by
    have := incs_le C M k
    unfold incs
    split <;> omega
theorem incs_step (C : Nat → Nat → Int) (M : List Nat) (k : Nat) : ∀ d, incs C M (k + d) ≤ incs C M k + d
  | 0 => Nat.le_refl _
  | d + 1 => by
    have := incs_step C M k d
    show incs C M (k + d) + (if C (M.getD (k + d) 0) (M.getD (k + d + 1) 0) = 0 then 0 else 1) ≤ _
    split <;> omega

section
variable {t : List Nat} {m : Nat} {C : Nat → Nat → Int} {M : List Nat}

/-- M: the suffixes, each once, none greater by its first m bytes than a later one. -/
def Near (t : List Nat) (m : Nat) (M : List Nat) : Prop :=
  M.Perm (List.range (t.length + 1)) ∧ M.Pairwise (fun i j => lcmp ((t.drop i).take m) ((t.drop j).take m) ≤ 0)

theorem Near.len (h : Near t m M) : M.length = t.length + 1 := by rw [h.1.length_eq, List.length_range]
theorem Near.mem (h : Near t m M) {x : Nat} : x ∈ M ↔ x ≤ t.length := by rw [h.1.mem_iff, List.mem_range]; omega
theorem getD_at {M : List Nat} {k : Nat} (h : k < M.length) : M.getD k 0 = M[k] := by
  rw [List.getD_eq_getElem?_getD, List.getElem?_eq_getElem h]; rfl

theorem Near.parts (h : Near t m M) (hC : ∀ i j, i ≤ t.length → j ≤ t.length → C i j = lcmp ((t.drop i).take m) ((t.drop j).take m)) (k : Nat) : ∀ d, k + d ≤ t.length →
    (incs C M k = incs C M (k + d) ∧ lcmp ((t.drop (M.getD k 0)).take m) ((t.drop (M.getD (k + d) 0)).take m) = 0) ∨ (incs C M k < incs C M (k + d) ∧ lcmp ((t.drop (M.getD k 0)).take m) ((t.drop (M.getD (k + d) 0)).take m) < 0)
  | 0, hd => .inl ⟨rfl, lcmp_self _⟩
  | d + 1, hd => by
    have ih := Near.parts h hC k d (by omega)
    have hl := h.len
    have h1 : k + d < M.length := by omega
    have h2 : k + (d + 1) < M.length := by omega
    have hp := List.pairwise_iff_getElem.1 h.2 (k + d) (k + (d + 1)) h1 h2 (by omega)
    have hc := hC M[k + d] M[k + (d + 1)] (h.mem.1 (List.getElem_mem h1)) (h.mem.1 (List.getElem_mem h2))
    rw [← getD_at h1, ← getD_at h2] at hp hc
    have hi : incs C M (k + (d + 1)) = incs C M (k + d) + if C (M.getD (k + d) 0) (M.getD (k + (d + 1)) 0) = 0 then 0 else 1 := rfl
    rw [hc] at hi
    by_cases h0 : lcmp ((t.drop (M.getD (k + d) 0)).take m) ((t.drop (M.getD (k + (d + 1)) 0)).take m) = 0
    · rw [if_pos h0] at hi
      rw [hi, ← lcmp_eq h0]
      exact ih
    · rw [if_neg h0] at hi
      right
      rcases ih with ⟨a, b⟩ | ⟨a, b⟩
      · exact ⟨by omega, by rw [lcmp_eq b]; omega⟩
      · exact ⟨by omega, lcmp_lt_le b (by omega)⟩

/-- The ranks that newRanks makes are those by the first m bytes. -/
theorem Near.ranks (h : Near t m M) (hC : ∀ i j, i ≤ t.length → j ≤ t.length → C i j = lcmp ((t.drop i).take m) ((t.drop j).take m)) {R : Nat → Int} (hR : ∀ k, k ≤ t.length → R (M.getD k 0) = (incs C M k : Nat)) : Ranks t m R := by
  have key : ∀ k d, k + d ≤ t.length → cmpI (R (M.getD k 0)) (R (M.getD (k + d) 0)) = lcmp ((t.drop (M.getD k 0)).take m) ((t.drop (M.getD (k + d) 0)).take m) := by
    intro k d hd
    rw [hR k (by omega), hR _ hd]
    rcases h.parts hC k d hd with ⟨a, b⟩ | ⟨a, b⟩
    · rw [b, cmpI_zero.2 (by omega)]
    · rw [cmpI_lt (by omega)]
      rcases lcmp_vals ((t.drop (M.getD k 0)).take m) ((t.drop (M.getD (k + d) 0)).take m) with h | h | h <;> omega
  intro i j hi hj
  obtain ⟨k, hk, rfl⟩ := List.getElem_of_mem (h.mem.2 hi)
  obtain ⟨l, hl, rfl⟩ := List.getElem_of_mem (h.mem.2 hj)
  have hlen := h.len
  rw [← getD_at hk, ← getD_at hl]
  rcases Nat.le_total k l with hkl | hkl
  · have := key k (l - k) (by omega)
    rwa [show k + (l - k) = l by omega] at this
  · have := key l (k - l) (by omega)
    rw [show l + (k - l) = k by omega] at this
    rw [lcmp_swap, ← this]
    unfold cmpI Lib.compareInt
    by_cases h1 : R (M.getD k 0) < R (M.getD l 0)
    · rw [if_pos h1, if_neg (by omega), if_pos h1]
    · by_cases h2 : R (M.getD l 0) < R (M.getD k 0)
      · rw [if_pos h2, if_neg h1, if_pos h2]; rfl
      · rw [if_neg h2, if_neg h1, if_neg h1, if_neg h2]; rfl

/-- With the greatest rank possible all suffixes are in their order. -/
theorem Near.done (h : Near t m M) (hC : ∀ i j, i ≤ t.length → j ≤ t.length → C i j = lcmp ((t.drop i).take m) ((t.drop j).take m)) (hn : incs C M t.length = t.length) : M = sfx t := by
  refine IsSfx.eq ⟨h.1, ?_⟩
  have hlen := h.len
  have ek : ∀ k, k ≤ t.length → incs C M k = k := fun k hk => by
    have h1 := incs_le C M k
    have h2 := incs_step C M k (t.length - k)
    rw [show k + (t.length - k) = t.length by omega, hn] at h2
    omega
  refine List.pairwise_iff_getElem.2 fun i j hi hj hij => ?_
  have := h.parts hC i (j - i) (by omega)
  rw [show i + (j - i) = j by omega, ek i (by omega), ek j (by omega), getD_at hi, getD_at hj] at this
  rcases this with ⟨a, _⟩ | ⟨_, b⟩
  · omega
  · exact lcmp_of_take_lt b

/-- That is so at the latest when no suffix is longer than what is compared. -/
theorem Near.last (h : Near t m M) (hC : ∀ i j, i ≤ t.length → j ≤ t.length → C i j = lcmp ((t.drop i).take m) ((t.drop j).take m)) (hm : t.length ≤ m) : incs C M t.length = t.length := by
  have hlen := h.len
  have hnd : M.Nodup := h.1.nodup_iff.2 List.nodup_range
  have key : ∀ k, k ≤ t.length → incs C M k = k := by
    intro k
    induction k with
    | zero => intro _; rfl
    | succ k ih =>
      intro hk
      have e := ih (by omega)
      have h1 : k < M.length := by omega
      have h2 : k + 1 < M.length := by omega
      have hc := hC M[k] M[k + 1] (h.mem.1 (List.getElem_mem h1)) (h.mem.1 (List.getElem_mem h2))
      rw [List.take_of_length_le (by simp; omega), List.take_of_length_le (by simp; omega)] at hc
      unfold incs
      rw [getD_at h1, getD_at h2, hc, if_neg, e]
      intro h0
      have := drop_inj (h.mem.1 (List.getElem_mem h1)) (h.mem.1 (List.getElem_mem h2)) (lcmp_eq h0)
      have := (List.getElem_inj hnd).1 this
      omega
  exact key _ (Nat.le_refl _)
end

end Go.Proofs.Ytkjelakdejbolaa
