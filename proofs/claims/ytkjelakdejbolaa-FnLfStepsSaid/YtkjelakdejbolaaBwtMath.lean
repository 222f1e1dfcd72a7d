/- The symbols of a text's sorted suffixes: where LfOf leads among them; the text that they give back. Nothing of the program stands here. -/
import Derived.Test.YtkjelakdejbolaaSfMath
import Derived.Test.YtkjelakdejbolaaLfMath
namespace Go.Proofs.Ytkjelakdejbolaa
open Go.RowKit

/-- The symbol of what stands before the suffix i. -/
def symB (T : List Nat) (i : Nat) : Int := if i = 0 then 0 else (T.getD (i - 1) 0 : Int) + 1
def bwtL (T : List Nat) : List Int := (sfx T).map (symB T)
def bwtV (T : List Nat) : List Int := if T.length ≤ 300 then bwtL T else []
theorem bwtL_len (T : List Nat) : (bwtL T).length = T.length + 1 := by unfold bwtL; rw [List.length_map, sfx_len]
theorem bwtV_len (T : List Nat) : (bwtV T).length ≤ 301 := by
  unfold bwtV
  split
  · rw [bwtL_len]; omega
  · simp
theorem bwtL_at {T : List Nat} {k i : Nat} (h : (sfx T)[k]? = some i) : (bwtL T)[k]? = some (symB T i) := by
  unfold bwtL
  rw [List.getElem?_map, h]
  rfl
theorem getD_nat {L : List Nat} {k x : Nat} (h : L[k]? = some x) : L.getD k 0 = x := by rw [List.getD_eq_getElem?_getD, h]; rfl
theorem symB_in {T : List Nat} (h8 : ∀ x ∈ T, x < 2 ^ 8) {i : Nat} (hi : i ≤ T.length) : 0 ≤ symB T i ∧ symB T i ≤ 256 := by
  unfold symB
  split
  · omega
  · have hl : i - 1 < T.length := by omega
    rw [getD_nat (List.getElem?_eq_getElem hl)]
    have := h8 _ (List.getElem_mem hl)
    omega
theorem bwtL_ok {T : List Nat} (h8 : ∀ x ∈ T, x < 2 ^ 8) (h3 : T.length ≤ 300) : symOk (bwtL T) = true := by
  refine (symOk_iff _).2 ⟨by rw [bwtL_len]; omega, fun x hx => ?_⟩
  obtain ⟨i, hi, rfl⟩ := List.mem_map.1 hx
  exact symB_in h8 (sfx_mem.1 hi)

/-! ### Rows -/

/-- The row of suffix i. -/
def rowN (T : List Nat) (i : Nat) : Nat := (sfx T).idxOf i
theorem rowN_at {T : List Nat} {i : Nat} (h : i ≤ T.length) : (sfx T)[rowN T i]? = some i := by
  have hl : (sfx T).idxOf i < (sfx T).length := List.idxOf_lt_length_iff.2 (sfx_mem.2 h)
  unfold rowN
  rw [List.getElem?_eq_getElem hl, List.getElem_idxOf hl]
theorem rowN_lt {T : List Nat} {i : Nat} (h : i ≤ T.length) : rowN T i < T.length + 1 := by
  have := (List.getElem?_eq_some_iff.1 (rowN_at h)).1
  rwa [sfx_len] at this
theorem sfx_nodup (T : List Nat) : (sfx T).Nodup := (sfx_is T).1.nodup_iff.2 List.nodup_range
theorem rowN_of {T : List Nat} {i k : Nat} (h : (sfx T)[k]? = some i) : rowN T i = k := by
  obtain ⟨hk, rfl⟩ := List.getElem?_eq_some_iff.1 h
  exact List.Nodup.idxOf_getElem (sfx_nodup T) k hk
theorem rowN_inj {T : List Nat} {i j : Nat} (hi : i ≤ T.length) (hj : j ≤ T.length) (h : rowN T i = rowN T j) : i = j := by
  have h1 := rowN_at hi
  rw [h, rowN_at hj] at h1
  exact (Option.some.inj h1).symm
/-- Rows lie as their suffixes compare. -/
theorem row_order {T : List Nat} {j k x y : Nat} (hj : (sfx T)[j]? = some x) (hk : (sfx T)[k]? = some y) : j < k ↔ lcmp (T.drop x) (T.drop y) < 0 := by
  obtain ⟨h1, rfl⟩ := List.getElem?_eq_some_iff.1 hj
  obtain ⟨h2, rfl⟩ := List.getElem?_eq_some_iff.1 hk
  constructor
  · intro h
    exact List.pairwise_iff_getElem.1 (sfx_is T).2 j k h1 h2 h
  · intro h
    rcases Nat.lt_trichotomy j k with h3 | h3 | h3
    · exact h3
    · subst h3
      rw [lcmp_self] at h
      omega
    · have h4 := List.pairwise_iff_getElem.1 (sfx_is T).2 k j h2 h1 h3
      have h5 := lcmp_swap (T.drop (sfx T)[j]) (T.drop (sfx T)[k])
      omega
theorem rowN_order {T : List Nat} {i j : Nat} (hi : i ≤ T.length) (hj : j ≤ T.length) : rowN T i < rowN T j ↔ lcmp (T.drop i) (T.drop j) < 0 := row_order (rowN_at hi) (rowN_at hj)
theorem drop_head {T : List Nat} {p : Nat} (h : p < T.length) : T.drop p = T.getD p 0 :: T.drop (p + 1) := by
  rw [List.drop_eq_getElem_cons h, getD_nat (List.getElem?_eq_getElem h)]
theorem lcmp_cons_lt (a b : Nat) (us vs : List Nat) : lcmp (a :: us) (b :: vs) < 0 ↔ a < b ∨ a = b ∧ lcmp us vs < 0 := by
  rw [lcmp_cons]
  by_cases h1 : a < b
  · rw [if_pos h1]
    omega
  · rw [if_neg h1]
    by_cases h2 : b < a
    · rw [if_pos h2]
      omega
    · rw [if_neg h2]
      omega

/-- The suffix one byte longer, and behind that of the whole text the empty one. -/
def longer (T : List Nat) (i : Nat) : Nat := if i = 0 then T.length else i - 1
theorem longer_le {T : List Nat} {i : Nat} (h : i ≤ T.length) : longer T i ≤ T.length := by unfold longer; split <;> omega
theorem longer_mod {T : List Nat} {i : Nat} (h : i ≤ T.length) : (i + T.length) % (T.length + 1) = longer T i := by
  unfold longer
  split
  · rename_i h0
    subst h0
    rw [Nat.zero_add, Nat.mod_eq_of_lt (by omega)]
  · rw [show i + T.length = i - 1 + (T.length + 1) by omega, Nat.add_mod_right, Nat.mod_eq_of_lt (by omega)]

/-- Where LfOf leads. -/
theorem lf_row {T : List Nat} {k i : Nat} (h : (sfx T)[k]? = some i) : lfAt (bwtL T) k = rowN T (longer T i) := by
  have hk : k < T.length + 1 := by
    have := (List.getElem?_eq_some_iff.1 h).1
    rwa [sfx_len] at this
  have hl := bwtL_len T
  have at_ : ∀ j, j < T.length + 1 → (sfx T)[j]? = some ((sfx T).getD j 0) ∧ (sfx T).getD j 0 ≤ T.length := fun j hj => by
    obtain ⟨x, hx, hxn⟩ := sfx_at (t := T) (k := j) (by omega)
    rw [getD_nat hx]
    exact ⟨hx, hxn⟩
  have key := same_of_order (n := T.length + 1) (f := lfAt (bwtL T)) (g := fun j => rowN T (longer T ((sfx T).getD j 0)))
    (fun j hj => by have := lfAt_lt (L := bwtL T) (k := j) (by omega); omega)
    (fun j hj l hl' e => lfAt_inj (by omega) (by omega) e)
    (fun j hj => rowN_lt (longer_le (at_ j hj).2))
    (fun j hj l hl' e => by
      have h1 := at_ j hj
      have h2 := at_ l hl'
      have e2 := rowN_inj (longer_le h1.2) (longer_le h2.2) e
      have e3 : (sfx T).getD j 0 = (sfx T).getD l 0 := by
        unfold longer at e2
        split at e2 <;> split at e2 <;> omega
      rw [← rowN_of h1.1, ← rowN_of h2.1, e3])
    (fun j hj l hl' => by
      have h1 := at_ j hj
      have h2 := at_ l hl'
      show _ ↔ rowN T (longer T ((sfx T).getD j 0)) < rowN T (longer T ((sfx T).getD l 0))
      rw [lfAt_order (bwtL_at h1.1) (bwtL_at h2.1), rowN_order (longer_le h1.2) (longer_le h2.2), row_order h1.1 h2.1]
      generalize (sfx T).getD j 0 = x at *
      generalize (sfx T).getD l 0 = y at *
      unfold symB longer
      by_cases hx : x = 0
      · by_cases hy : y = 0
        · rw [if_pos hx, if_pos hy, if_pos hx, if_pos hy, hx, hy, lcmp_self, lcmp_self]
          omega
        · rw [if_pos hx, if_neg hy, if_pos hx, if_neg hy, List.drop_of_length_le (Nat.le_refl _), drop_head (show y - 1 < T.length by omega)]
          simp only [lcmp]
          omega
      · by_cases hy : y = 0
        · rw [if_neg hx, if_pos hy, if_neg hx, if_pos hy, List.drop_of_length_le (Nat.le_refl _), drop_head (show x - 1 < T.length by omega)]
          simp only [lcmp]
          omega
        · rw [if_neg hx, if_neg hy, if_neg hx, if_neg hy, drop_head (show x - 1 < T.length by omega), drop_head (show y - 1 < T.length by omega), lcmp_cons_lt, show x - 1 + 1 = x by omega, show y - 1 + 1 = y by omega]
          omega) hk
  rw [key, getD_nat h]

/-! ### The text given back -/

/-- The symbol that the walk from index 0 meets at step i; the text behind m steps. -/
def syN (L : List Int) (i : Nat) : Int := L.getD (lfIt L 0 i) 0
def backT (L : List Int) : Nat → List Nat
  | 0 => []
  | i + 1 => (syN L i - 1).toNat :: backT L i
theorem backT_len (L : List Int) : ∀ i, (backT L i).length = i
  | 0 => rfl
  | i + 1 => by rw [backT, List.length_cons, backT_len L i]
theorem backT_drop (L : List Int) : ∀ (m i : Nat), i ≤ m → (backT L m).drop (m - i) = backT L i
  | 0, i, h => by obtain rfl : i = 0 := by omega
                  rfl
  | m + 1, i, h => by
    by_cases e : i = m + 1
    · subst e
      rw [Nat.sub_self, List.drop_zero]
    · rw [show m + 1 - i = (m - i) + 1 by omega, backT, List.drop_succ_cons, backT_drop L m i (by omega)]
theorem backT_get (L : List Int) {m i : Nat} (h : i < m) : (backT L m)[m - 1 - i]? = some (syN L i - 1).toNat := by
  have h1 := backT_drop L m (i + 1) (by omega)
  rw [show m - (i + 1) = m - 1 - i by omega] at h1
  have h2 : ((backT L m).drop (m - 1 - i))[0]? = some (syN L i - 1).toNat := by rw [h1]; rfl
  rw [List.getElem?_drop, Nat.add_zero] at h2
  exact h2

theorem sfx_zeroN (T : List Nat) : rowN T T.length = 0 := by
  by_cases h0 : rowN T T.length = 0
  · exact h0
  · exfalso
    obtain ⟨x, hx, hxn⟩ := sfx_at (t := T) (k := 0) (by omega)
    have h := (row_order hx (rowN_at (Nat.le_refl _))).1 (by omega)
    rw [List.drop_of_length_le (Nat.le_refl _)] at h
    cases hd : T.drop x with
    | nil => rw [hd] at h; simp [lcmp] at h
    | cons a r => rw [hd] at h; simp [lcmp] at h

/-- The walk over a text's own symbols. -/
theorem walk_row (T : List Nat) : ∀ i, i ≤ T.length → lfIt (bwtL T) 0 i = rowN T (T.length - i)
  | 0, _ => (sfx_zeroN T).symm
  | i + 1, h => by
    rw [lfIt, walk_row T i (by omega), lf_row (rowN_at (by omega))]
    unfold longer
    rw [if_neg (by omega), show T.length - i - 1 = T.length - (i + 1) by omega]
theorem walk_sym (T : List Nat) {i : Nat} (h : i ≤ T.length) : syN (bwtL T) i = symB T (T.length - i) := by
  unfold syN
  rw [walk_row T i h, getD_int (bwtL_at (rowN_at (by omega)))]
theorem walk_some (T : List Nat) {i : Nat} (h : i < T.length) : 0 < syN (bwtL T) i := by
  rw [walk_sym T (by omega)]
  unfold symB
  rw [if_neg (by omega)]
  omega
theorem walk_end (T : List Nat) : syN (bwtL T) T.length = 0 := by
  rw [walk_sym T (Nat.le_refl _), Nat.sub_self]
  rfl
theorem walk_back (T : List Nat) : ∀ i, i ≤ T.length → backT (bwtL T) i = T.drop (T.length - i)
  | 0, _ => by rw [Nat.sub_zero, List.drop_of_length_le (Nat.le_refl _)]; rfl
  | i + 1, h => by
    rw [backT, walk_back T i (by omega), walk_sym T (by omega), drop_head (show T.length - (i + 1) < T.length by omega), show T.length - (i + 1) + 1 = T.length - i by omega]
    unfold symB
    rw [if_neg (by omega), show T.length - i - 1 = T.length - (i + 1) by omega]
    congr 1
    omega
theorem back_text (T : List Nat) : backT (bwtL T) T.length = T := by rw [walk_back T _ (Nat.le_refl _), Nat.sub_self, List.drop_zero]
/-- As many steps as there are rows lead back. -/
theorem walk_round (T : List Nat) {k i : Nat} (h : (sfx T)[k]? = some i) : ∀ m, ∃ j, j ≤ T.length ∧ lfIt (bwtL T) k m = rowN T j ∧ (j + m) % (T.length + 1) = i
  | 0 => ⟨i, by
      have := sfx_mem.1 (List.mem_of_getElem? h)
      exact this, (rowN_of h).symm, by
      have := sfx_mem.1 (List.mem_of_getElem? h)
      rw [Nat.add_zero, Nat.mod_eq_of_lt (by omega)]⟩
  | m + 1 => by
    obtain ⟨j, hj, e, hm⟩ := walk_round T h m
    refine ⟨longer T j, longer_le hj, by rw [lfIt, e, lf_row (rowN_at hj)], ?_⟩
    rw [← hm]
    unfold longer
    split
    · rename_i h0
      subst h0
      rw [show T.length + (m + 1) = 0 + m + (T.length + 1) by omega, Nat.add_mod_right]
    · rw [show j - 1 + (m + 1) = j + m by omega]
theorem walk_all (T : List Nat) {k : Nat} (h : k < T.length + 1) : lfIt (bwtL T) k (T.length + 1) = k := by
  obtain ⟨i, hi, hin⟩ := sfx_at (t := T) (k := k) (by omega)
  obtain ⟨j, hj, e, hm⟩ := walk_round T hi (T.length + 1)
  rw [Nat.add_mod_right, Nat.mod_eq_of_lt (by omega)] at hm
  subst hm
  rw [e, rowN_of hi]

/-- A walk that meets the end last, and only then, is that over the symbols of the text that it gives. -/
theorem back_bwt {L : List Int} {m : Nat} (hn : L.length = m + 1) (h0 : ∀ x ∈ L, 0 ≤ x) (hs : ∀ i < m, syN L i ≠ 0) (he : syN L m = 0) : bwtL (backT L m) = L := by
  have hpos : 0 < L.length := by omega
  have hlt := fun i => lfIt_lt (L := L) hpos i
  have hat : ∀ i, L[lfIt L 0 i]? = some (syN L i) := fun i => by
    unfold syN
    rw [getD_int (List.getElem?_eq_getElem (hlt i)), List.getElem?_eq_getElem (hlt i)]
  have hzero : ∀ k, k < L.length → lfAt L k = 0 → L[k]? = some 0 := fun k hk e => by
    have h1 := (lfAt_in (List.getElem?_eq_getElem hk)).1
    have h2 : ¬ (0 : Int) < L[k] := fun hc => by
      have h3 : 0 < ltN L L[k] := by
        unfold ltN
        refine List.countP_pos_iff.2 ⟨0, ?_, by simpa using hc⟩
        have := hat m
        rw [he] at this
        exact List.mem_of_getElem? this
      omega
    have h4 := h0 _ (List.getElem_mem hk)
    rw [List.getElem?_eq_getElem hk]
    congr 1
    omega
  have hinj : ∀ i < m + 1, ∀ j < m + 1, lfIt L 0 i = lfIt L 0 j → i = j := by
    have half : ∀ i d, i + d < m + 1 → lfIt L 0 i = lfIt L 0 (i + d) → d = 0 := fun i d hd e => by
      have h1 := lfIt_back hpos i d e
      cases d with
      | zero => rfl
      | succ d =>
        exfalso
        rw [lfIt] at h1
        have h2 := hzero _ (hlt d) h1.symm
        rw [hat d] at h2
        exact hs d (by omega) (Option.some.inj h2)
    intro i hi j hj e
    rcases Nat.le_total i j with h | h
    · have := half i (j - i) (by omega) (by rw [show i + (j - i) = j by omega]; exact e)
      omega
    · have := half j (i - j) (by omega) (by rw [show j + (i - j) = i by omega]; exact e.symm)
      omega
  have hwlt : ∀ i < m + 1, lfIt L 0 i < m + 1 := fun i _ => by have := hlt i; omega
  -- the suffix of each row
  let W : List Nat := (List.range (m + 1)).map (lfIt L 0)
  have hWp : W.Perm (List.range (m + 1)) := perm_of_inj hwlt hinj
  have hWn : W.Nodup := hWp.nodup_iff.2 List.nodup_range
  have hWl : W.length = m + 1 := by simp [W]
  have hWat : ∀ i, i < m + 1 → W[i]? = some (lfIt L 0 i) := fun i hi => by
    simp only [W]
    rw [List.getElem?_map, List.getElem?_range hi]
    rfl
  have hWi : ∀ i, i < m + 1 → W.idxOf (lfIt L 0 i) = i := fun i hi => by
    obtain ⟨h1, h2⟩ := List.getElem?_eq_some_iff.1 (hWat i hi)
    rw [← h2]
    exact List.Nodup.idxOf_getElem hWn i h1
  have hsub : ∀ r, r < m + 1 → ∃ i, i < m + 1 ∧ r = lfIt L 0 i := fun r hr => by
    obtain ⟨i, hi, e⟩ := onto_of_inj hwlt hinj hr
    exact ⟨i, hi, e.symm⟩
  have hT := backT_len L m
  -- their order
  have hord : ∀ i, i < m + 1 → ∀ j, j < m + 1 → lfIt L 0 i < lfIt L 0 j → lcmp (backT L i) (backT L j) < 0 := by
    intro i
    induction i with
    | zero =>
      intro _ j hj h
      cases j with
      | zero => omega
      | succ j => simp [backT, lcmp]
    | succ i ih =>
      intro hi j hj h
      cases j with
      | zero => rw [show lfIt L 0 0 = 0 from rfl] at h; omega
      | succ j =>
        rw [lfIt, lfIt, lfAt_order (hat i) (hat j)] at h
        rw [backT, backT, lcmp_cons_lt]
        have a1 := hs i (by omega)
        have a2 := hs j (by omega)
        have b1 := h0 _ (List.mem_of_getElem? (hat i))
        have b2 := h0 _ (List.mem_of_getElem? (hat j))
        rcases h with h | ⟨h1, h2⟩
        · left; omega
        · right
          exact ⟨by rw [h1], ih (by omega) j (by omega) h2⟩
  have hM : IsSfx (backT L m) ((List.range (m + 1)).map fun r => m - W.idxOf r) := by
    have hidx : ∀ r, r < m + 1 → W.idxOf r < m + 1 := fun r hr => by
      have := List.idxOf_lt_length_iff.2 (hWp.mem_iff.2 (List.mem_range.2 hr))
      omega
    constructor
    · rw [hT]
      refine perm_of_inj (f := fun r => m - W.idxOf r) (fun r hr => by show m - W.idxOf r < m + 1; omega) (fun r hr s hs' e => ?_)
      have h1 := hidx r hr
      have h2 := hidx s hs'
      have e2 : W.idxOf r = W.idxOf s := by
        have e' : m - W.idxOf r = m - W.idxOf s := e
        omega
      obtain ⟨i, hi, rfl⟩ := hsub r hr
      obtain ⟨j, hj, rfl⟩ := hsub s hs'
      rw [hWi i hi, hWi j hj] at e2
      rw [e2]
    · rw [List.pairwise_map]
      refine List.Pairwise.imp_of_mem (R := fun a b => a < b) (fun {a b} ha hb hab => ?_) List.pairwise_lt_range
      obtain ⟨i, hi, rfl⟩ := hsub a (List.mem_range.1 ha)
      obtain ⟨j, hj, rfl⟩ := hsub b (List.mem_range.1 hb)
      rw [hWi i hi, hWi j hj, backT_drop L m i (by omega), backT_drop L m j (by omega)]
      exact hord i hi j hj hab
  have hE := IsSfx.eq hM
  unfold bwtL
  rw [← hE, List.map_map]
  refine List.ext_getElem? fun r => ?_
  by_cases hr : r < m + 1
  · rw [List.getElem?_map, List.getElem?_range hr]
    obtain ⟨i, hi, rfl⟩ := hsub r hr
    show some (symB (backT L m) (m - W.idxOf (lfIt L 0 i))) = _
    rw [hat i, hWi i hi]
    congr 1
    unfold symB
    by_cases e : i = m
    · subst e
      rw [if_pos (by omega), he]
    · rw [if_neg (by omega), show m - i - 1 = m - 1 - i by omega, getD_nat (backT_get L (show i < m by omega))]
      have a1 := hs i (by omega)
      have b1 := h0 _ (List.mem_of_getElem? (hat i))
      omega
  · rw [List.getElem?_eq_none (by simp; omega), List.getElem?_eq_none (by omega)]

end Go.Proofs.Ytkjelakdejbolaa
