import Derived.Test.YtkjelakdejbolaaMem
/- Lists that hold each of their indices once, and their inverses. Nothing of the program stands here. -/
namespace Go.Proofs.Ytkjelakdejbolaa
open Go.RowKit

theorem pig : ∀ (m : Nat) (L : List Int), L.length = m → (∀ x : Nat, x < m → (x : Int) ∈ L) → L.Nodup ∧ ∀ y ∈ L, 0 ≤ y ∧ y < m
  | 0, L, hl, _ => by
    obtain rfl := List.length_eq_zero_iff.1 hl
    simp
  | m + 1, L, hl, h => by
    have hm := h m (by omega)
    have hp := List.perm_cons_erase hm
    have hl2 : (L.erase (m : Int)).length = m := by rw [List.length_erase_of_mem hm, hl]; rfl
    obtain ⟨hn, hb⟩ := pig m (L.erase (m : Int)) hl2 fun x hx => (List.mem_erase_of_ne (by omega)).2 (h x (by omega))
    constructor
    · refine hp.nodup_iff.2 (List.nodup_cons.2 ⟨fun hc => ?_, hn⟩)
      have := (hb _ hc).2
      omega
    · intro y hy
      rcases List.mem_cons.1 (hp.mem_iff.1 hy) with rfl | hy
      · omega
      · have := hb y hy
        omega

theorem pig2 : ∀ (m : Nat) (L : List Int), L.length = m → L.Nodup → (∀ y ∈ L, 0 ≤ y ∧ y < m) → ∀ x : Nat, x < m → (x : Int) ∈ L
  | 0, L, hl, _, _, x, hx => by omega
  | m + 1, L, hl, hn, hb, x, hx => by
    by_cases hm : (m : Int) ∈ L
    · by_cases hxm : x = m
      · subst hxm; exact hm
      · have hl2 : (L.erase (m : Int)).length = m := by rw [List.length_erase_of_mem hm, hl]; rfl
        have := pig2 m (L.erase (m : Int)) hl2 (hn.erase _) (fun y hy => by
          have h1 := hb y (List.mem_of_mem_erase hy)
          have h2 : y ≠ (m : Int) := fun e => by
            subst e
            exact (List.Nodup.not_mem_erase hn) hy
          omega) x (by omega)
        exact List.mem_of_mem_erase this
    · exfalso
      cases L with
      | nil => simp at hl
      | cons y r =>
        have hr : r.length = m := by simpa using hl
        obtain ⟨hy, hnr⟩ := List.nodup_cons.1 hn
        have hb2 : ∀ z ∈ y :: r, 0 ≤ z ∧ z < (m : Int) := fun z hz => by
          have h1 := hb z hz
          have h2 : z ≠ (m : Int) := fun e => hm (e ▸ hz)
          omega
        obtain ⟨h1, h2⟩ := hb2 y (by simp)
        obtain ⟨a, rfl⟩ := Int.eq_ofNat_of_zero_le h1
        exact hy (pig2 m r hr hnr (fun z hz => hb2 z (by simp [hz])) a (by omega))

/-- Which lists can be inverted, and their inverses. -/
def invOk (L : List Int) : Bool := decide (L.length ≤ 301) && (List.range L.length).all fun x => decide ((x : Int) ∈ L)
def invV (L : List Int) : List Int := if invOk L = true then (List.range L.length).map fun x : Nat => (L.idxOf (x : Int) : Int) else []
theorem invOk_iff (L : List Int) : invOk L = true ↔ L.length ≤ 301 ∧ ∀ x : Nat, x < L.length → (x : Int) ∈ L := by
  unfold invOk
  simp
theorem invV_len (L : List Int) : (invV L).length ≤ 301 := by
  unfold invV
  split
  · rename_i h
    have := ((invOk_iff L).1 h).1
    simpa using this
  · simp
theorem invOk_pig {L : List Int} (h : invOk L = true) : L.Nodup ∧ ∀ y ∈ L, 0 ≤ y ∧ y < (L.length : Int) := pig _ L rfl ((invOk_iff L).1 h).2

theorem idxOf_at {L : List Int} {k : Nat} {y : Int} (hn : L.Nodup) (h : L[k]? = some y) : L.idxOf y = k := by
  obtain ⟨hk, rfl⟩ := List.getElem?_eq_some_iff.1 h
  exact List.Nodup.idxOf_getElem hn k hk
theorem mem_take_iff {L : List Int} {k : Nat} {y : Int} (hn : L.Nodup) (hy : y ∈ L) : y ∈ L.take k ↔ L.idxOf y < k := by
  constructor
  · intro h
    obtain ⟨j, hj, e⟩ := List.getElem_of_mem h
    rw [List.length_take] at hj
    have : L[j]? = some y := by
      rw [List.getElem_take] at e
      rw [List.getElem?_eq_getElem (by omega), e]
    rw [idxOf_at hn this]
    omega
  · intro h
    have hl : L.idxOf y < L.length := List.idxOf_lt_length_iff.2 hy
    have := List.getElem_idxOf hl
    rw [List.mem_iff_getElem]
    exact ⟨L.idxOf y, by rw [List.length_take]; omega, by rw [List.getElem_take]; exact this⟩

/-- The places, when the first k elements have been read. -/
def plK (L : List Int) (k : Nat) : List Int := (List.range L.length).map fun x : Nat => if (x : Int) ∈ L.take k then (L.idxOf (x : Int) : Int) else -1
theorem plK_zero (L : List Int) : plK L 0 = List.replicate L.length (-1) := by
  unfold plK
  simp [List.map_const']
theorem plK_len (L : List Int) (k : Nat) : (plK L k).length = L.length := by simp [plK]
theorem plK_get (L : List Int) (k x : Nat) (h : x < L.length) : (plK L k)[x]? = some (if (x : Int) ∈ L.take k then (L.idxOf (x : Int) : Int) else -1) := by
  unfold plK
  rw [List.getElem?_map, List.getElem?_range h]
  rfl
theorem plK_all {L : List Int} (h : invOk L = true) : plK L L.length = invV L := by
  unfold plK invV
  rw [if_pos h, List.take_of_length_le (Nat.le_refl _)]
  refine List.map_congr_left fun x hx => ?_
  rw [if_pos (((invOk_iff L).1 h).2 x (List.mem_range.1 hx))]
theorem plK_succ {L : List Int} {k x : Nat} (h : L[k]? = some (x : Int)) (hno : (x : Int) ∉ L.take k) : plK L (k + 1) = (plK L k).set x (k : Int) := by
  have hk : k < L.length := (List.getElem?_eq_some_iff.1 h).1
  refine List.ext_getElem? fun j => ?_
  by_cases hj : j < L.length
  · rw [plK_get L _ j hj, List.getElem?_set]
    have hm : (j : Int) ∈ L.take (k + 1) ↔ (j : Int) ∈ L.take k ∨ j = x := by
      rw [List.take_add_one, h, List.mem_append]
      simp only [Option.toList_some, List.mem_singleton]
      exact ⟨fun h => h.elim .inl fun h => .inr (by omega), fun h => h.elim .inl fun h => .inr (by omega)⟩
    by_cases e : x = j
    · subst e
      rw [if_pos (hm.2 (.inr rfl)), if_pos rfl, if_pos (by rw [plK_len]; exact hj)]
      have hi : L.idxOf (x : Int) = k := by
        have hx : L[k] = (x : Int) := by
          have := List.getElem?_eq_getElem hk
          rw [h] at this
          exact (Option.some.inj this).symm
        have e1 : L.idxOf (x : Int) = (L.take k ++ L.drop k).idxOf (x : Int) := by rw [List.take_append_drop]
        rw [e1, List.idxOf_append, if_neg hno, List.drop_eq_getElem_cons hk, hx, List.idxOf_cons_self, List.length_take]
        omega
      rw [hi]
    · rw [if_neg e, plK_get L k j hj]
      by_cases hjm : (j : Int) ∈ L.take k
      · rw [if_pos hjm, if_pos (hm.2 (.inl hjm))]
      · rw [if_neg hjm, if_neg (fun hc => (hm.1 hc).elim hjm fun e2 => e e2.symm)]
  · rw [List.getElem?_eq_none (by rw [plK_len]; omega), List.getElem?_eq_none (by rw [List.length_set, plK_len]; omega)]

end Go.Proofs.Ytkjelakdejbolaa

/- Lists of symbols: which are valid, their counts, where LfOf leads, runs. Nothing of the program stands here. -/
namespace Go.Proofs.Ytkjelakdejbolaa
open Go.RowKit

/-- Which lists are lists of symbols. -/
def symOk (L : List Int) : Bool := decide (L.length ≤ 301) && L.all fun x => decide (0 ≤ x) && decide (x ≤ 256)
theorem symOk_iff (L : List Int) : symOk L = true ↔ L.length ≤ 301 ∧ ∀ x ∈ L, 0 ≤ x ∧ x ≤ 256 := by
  unfold symOk
  simp
theorem symOk_len {L : List Int} (h : symOk L = true) : L.length ≤ 301 := ((symOk_iff L).1 h).1
theorem symOk_at {L : List Int} (h : symOk L = true) {k : Nat} {x : Int} (hx : L[k]? = some x) : 0 ≤ x ∧ x ≤ 256 := ((symOk_iff L).1 h).2 x (List.mem_of_getElem? hx)
theorem symOk_no {L : List Int} {k : Nat} {x : Int} (hx : L[k]? = some x) (h : x < 0 ∨ 256 < x) : symOk L = false := by
  cases hs : symOk L
  · rfl
  · have := symOk_at hs hx
    omega
theorem symOk_long {L : List Int} (h : 301 < L.length) : symOk L = false := by
  cases hs : symOk L
  · rfl
  · have := symOk_len hs
    omega
theorem symOk_all {L : List Int} (h : L.length ≤ 301) (ha : ∀ j < L.length, ∀ x, L[j]? = some x → 0 ≤ x ∧ x ≤ 256) : symOk L = true := by
  refine (symOk_iff L).2 ⟨h, fun x hx => ?_⟩
  obtain ⟨j, hj, rfl⟩ := List.getElem_of_mem hx
  exact ha j hj _ (List.getElem?_eq_getElem hj)

/-- How many symbols are less than c. -/
def ltN (L : List Int) (c : Int) : Nat := L.countP fun x => decide (x < c)
def countsV (L : List Int) : List Int := if symOk L = true then (List.range 258).map fun c : Nat => (ltN L (c : Int) : Int) else []
/-- Where LfOf leads from index k. -/
def lfAt (L : List Int) (k : Nat) : Nat := ltN L (L.getD k 0) + (L.take k).count (L.getD k 0)
def lfV (L : List Int) : List Int := if symOk L = true then (List.range L.length).map fun k : Nat => (lfAt L k : Int) else []
theorem countsV_len (L : List Int) : (countsV L).length ≤ 258 := by
  unfold countsV
  split <;> simp
theorem lfV_len (L : List Int) : (lfV L).length ≤ 301 := by
  unfold lfV
  split
  · rename_i h
    simpa using symOk_len h
  · simp

theorem ltN_mono (L : List Int) {c d : Int} (h : c ≤ d) : ltN L c ≤ ltN L d := by
  unfold ltN
  refine List.countP_mono_left fun x _ hx => ?_
  simp only [decide_eq_true_iff] at *
  omega
theorem ltN_succ (L : List Int) (c : Int) : ltN L (c + 1) = ltN L c + L.count c := by
  unfold ltN
  induction L with
  | nil => rfl
  | cons x r ih =>
    rw [List.countP_cons, List.countP_cons, List.count_cons, ih]
    by_cases h1 : x < c
    · rw [if_pos (by simp; omega), if_pos (by simpa using h1), if_neg (by simp; omega)]
      omega
    · by_cases h2 : x = c
      · rw [if_pos (by simp; omega), if_neg (by simpa using h1), if_pos (by simpa using h2)]
        omega
      · rw [if_neg (by simp; omega), if_neg (by simpa using h1), if_neg (by simpa using h2)]
        omega
theorem ltN_le (L : List Int) (c : Int) : ltN L c ≤ L.length := List.countP_le_length
theorem ltN_zero {L : List Int} (h : ∀ x ∈ L, 0 ≤ x) : ltN L 0 = 0 := by
  unfold ltN
  refine List.countP_eq_zero.2 fun x hx => ?_
  have := h x hx
  simp
  omega
theorem ltN_all {L : List Int} {c : Int} (h : ∀ x ∈ L, x < c) : ltN L c = L.length := by
  unfold ltN
  refine List.countP_eq_length.2 fun x hx => ?_
  simpa using h x hx

theorem getD_int {L : List Int} {k : Nat} {x : Int} (h : L[k]? = some x) : L.getD k 0 = x := by rw [List.getD_eq_getElem?_getD, h]; rfl
theorem count_take1 {L : List Int} {k : Nat} {y : Int} (h : L[k]? = some y) (x : Int) : (L.take (k + 1)).count x = (L.take k).count x + if y = x then 1 else 0 := by
  rw [List.take_add_one, h, Option.toList_some, List.count_append, List.count_singleton]
  simp
theorem count_take_le (L : List Int) {j k : Nat} (h : j ≤ k) (x : Int) : (L.take j).count x ≤ (L.take k).count x := by
  have e : L.take j = (L.take k).take j := by rw [List.take_take, Nat.min_eq_left h]
  rw [e]
  exact (List.take_sublist _ _).count_le x
theorem count_take_lt {L : List Int} {k : Nat} {x : Int} (h : L[k]? = some x) : (L.take k).count x < L.count x := by
  have h1 := count_take1 h x
  rw [if_pos rfl] at h1
  have h2 := (List.take_sublist (k + 1) L).count_le x
  omega
theorem lfAt_of {L : List Int} {k : Nat} {x : Int} (h : L[k]? = some x) : lfAt L k = ltN L x + (L.take k).count x := by
  unfold lfAt
  rw [getD_int h]
/-- Between the count of the smaller symbols and that of those not greater. -/
theorem lfAt_in {L : List Int} {k : Nat} {x : Int} (h : L[k]? = some x) : ltN L x ≤ lfAt L k ∧ lfAt L k < ltN L (x + 1) := by
  rw [lfAt_of h, ltN_succ]
  have := count_take_lt h
  omega
theorem lfAt_lt {L : List Int} {k : Nat} (h : k < L.length) : lfAt L k < L.length := by
  have h1 := lfAt_in (List.getElem?_eq_getElem h)
  have := ltN_le L (L[k] + 1)
  omega
/-- The order that LfOf keeps: by the symbols, and those equal by the indices. -/
theorem lfAt_order {L : List Int} {j k : Nat} {x y : Int} (hj : L[j]? = some x) (hk : L[k]? = some y) : lfAt L j < lfAt L k ↔ x < y ∨ x = y ∧ j < k := by
  have same : ∀ {a b : Nat}, L[a]? = some x → a < b → (L.take a).count x < (L.take b).count x := fun {a b} ha hab => by
    have h1 := count_take1 ha x
    rw [if_pos rfl] at h1
    have h2 := count_take_le L (show a + 1 ≤ b by omega) x
    omega
  rcases Int.lt_trichotomy x y with h | h | h
  · have h1 := (lfAt_in hj).2
    have h2 := (lfAt_in hk).1
    have h3 := ltN_mono L (show x + 1 ≤ y by omega)
    constructor
    · intro _; exact .inl h
    · intro _; omega
  · subst h
    rw [lfAt_of hj, lfAt_of hk]
    constructor
    · intro hlt
      right
      refine ⟨rfl, ?_⟩
      rcases Nat.lt_trichotomy j k with h | h | h
      · exact h
      · subst h; omega
      · have := same hk h; omega
    · rintro (h | ⟨_, h⟩)
      · omega
      · have := same hj h; omega
  · have h1 := (lfAt_in hk).2
    have h2 := (lfAt_in hj).1
    have h3 := ltN_mono L (show y + 1 ≤ x by omega)
    constructor
    · intro _; omega
    · intro hc; omega
theorem lfAt_inj {L : List Int} {j k : Nat} (hj : j < L.length) (hk : k < L.length) (h : lfAt L j = lfAt L k) : j = k := by
  have h1 := lfAt_order (List.getElem?_eq_getElem hj) (List.getElem?_eq_getElem hk)
  have h2 := lfAt_order (List.getElem?_eq_getElem hk) (List.getElem?_eq_getElem hj)
  rcases Int.lt_trichotomy L[j] L[k] with h3 | h3 | h3
  · have := h1.2 (.inl h3); omega
  · rcases Nat.lt_trichotomy j k with h4 | h4 | h4
    · have := h1.2 (.inr ⟨h3, h4⟩); omega
    · exact h4
    · have := h2.2 (.inr ⟨h3.symm, h4⟩); omega
  · have := h2.2 (.inl h3); omega

/-! ### One to one mappings of 0, .., n - 1 -/

theorem nodup_mapOn {α β : Type} {f : α → β} : ∀ {l : List α}, l.Nodup → (∀ a ∈ l, ∀ b ∈ l, f a = f b → a = b) → (l.map f).Nodup
  | [], _, _ => List.nodup_nil
  | a :: l, hn, h => by
    obtain ⟨h1, h2⟩ := List.nodup_cons.1 hn
    rw [List.map_cons]
    refine List.nodup_cons.2 ⟨fun hm => ?_, nodup_mapOn h2 fun x hx y hy => h x (by simp [hx]) y (by simp [hy])⟩
    obtain ⟨b, hb, e⟩ := List.mem_map.1 hm
    have := h b (by simp [hb]) a (by simp) e
    subst this
    exact h1 hb
theorem onto_of_inj {n : Nat} {f : Nat → Nat} (hf : ∀ k < n, f k < n) (hi : ∀ j < n, ∀ k < n, f j = f k → j = k) {v : Nat} (hv : v < n) : ∃ k, k < n ∧ f k = v := by
  have h := pig2 n ((List.range n).map fun k => (f k : Int)) (by simp) (nodup_mapOn List.nodup_range fun a ha b hb e => hi a (List.mem_range.1 ha) b (List.mem_range.1 hb) (by omega)) (fun y hy => by
    obtain ⟨k, hk, rfl⟩ := List.mem_map.1 hy
    have := hf k (List.mem_range.1 hk)
    omega) v hv
  obtain ⟨k, hk, e⟩ := List.mem_map.1 h
  exact ⟨k, List.mem_range.1 hk, by omega⟩
theorem perm_of_inj {n : Nat} {f : Nat → Nat} (hf : ∀ k < n, f k < n) (hi : ∀ j < n, ∀ k < n, f j = f k → j = k) : ((List.range n).map f).Perm (List.range n) := by
  refine (List.perm_ext_iff_of_nodup (nodup_mapOn List.nodup_range fun a ha b hb e => hi a (List.mem_range.1 ha) b (List.mem_range.1 hb) e) List.nodup_range).2 fun v => ?_
  rw [List.mem_range]
  constructor
  · intro h
    obtain ⟨k, hk, rfl⟩ := List.mem_map.1 h
    exact hf k (List.mem_range.1 hk)
  · intro h
    obtain ⟨k, hk, rfl⟩ := onto_of_inj hf hi h
    exact List.mem_map.2 ⟨k, List.mem_range.2 hk, rfl⟩
theorem countP_range_lt (n v : Nat) : (List.range n).countP (fun j => decide (j < v)) = min v n := by
  induction n with
  | zero => simp
  | succ n ih =>
    rw [List.range_succ, List.countP_append, ih, List.countP_singleton]
    by_cases h : n < v
    · rw [if_pos (by simpa using h)]; omega
    · rw [if_neg (by simpa using h)]; omega
theorem countP_inj {n : Nat} {f : Nat → Nat} (hf : ∀ k < n, f k < n) (hi : ∀ j < n, ∀ k < n, f j = f k → j = k) {v : Nat} (hv : v ≤ n) : (List.range n).countP (fun j => decide (f j < v)) = v := by
  have h := (perm_of_inj hf hi).countP_eq (fun j => decide (j < v))
  rw [List.countP_map, countP_range_lt, Nat.min_eq_left hv] at h
  exact h
/-- Two such mappings that keep the same order are the same. -/
theorem same_of_order {n : Nat} {f g : Nat → Nat} (hf : ∀ k < n, f k < n) (hfi : ∀ j < n, ∀ k < n, f j = f k → j = k) (hg : ∀ k < n, g k < n) (hgi : ∀ j < n, ∀ k < n, g j = g k → j = k)
    (h : ∀ j < n, ∀ k < n, f j < f k ↔ g j < g k) {k : Nat} (hk : k < n) : f k = g k := by
  have h1 := countP_inj hf hfi (Nat.le_of_lt (hf k hk))
  have h2 := countP_inj hg hgi (Nat.le_of_lt (hg k hk))
  have e : (List.range n).countP (fun j => decide (f j < f k)) = (List.range n).countP (fun j => decide (g j < g k)) := by
    refine List.countP_congr fun j hj => ?_
    simp only [decide_eq_true_iff]
    exact h j (List.mem_range.1 hj) k hk
  omega
theorem lfV_count {L : List Int} (h : symOk L = true) {i : Nat} (hi : i < L.length) : (lfV L).count (i : Int) = 1 := by
  unfold lfV
  rw [if_pos h]
  have hp := perm_of_inj (n := L.length) (f := lfAt L) (fun k hk => lfAt_lt hk) (fun j hj k hk e => lfAt_inj hj hk e)
  have hm : (List.range L.length).map (fun k : Nat => (lfAt L k : Int)) = ((List.range L.length).map (lfAt L)).map (fun x : Nat => (x : Int)) := by
    rw [List.map_map]
    rfl
  rw [hm, (hp.map _).count_eq]
  have hn : ((List.range L.length).map (fun x : Nat => (x : Int))).Nodup := nodup_mapOn List.nodup_range fun a _ b _ e => by omega
  rw [hn.count, if_pos (List.mem_map.2 ⟨i, List.mem_range.2 hi, rfl⟩)]

/-! ### Runs -/

def runAt (L : List Int) (k : Nat) : Bool := decide (k = 0) || decide (L.getD k 0 ≠ L.getD (k - 1) 0)
def runsK (L : List Int) (k : Nat) : Nat := (List.range k).countP (runAt L)
theorem runsK_succ (L : List Int) (k : Nat) : runsK L (k + 1) = runsK L k + if runAt L k = true then 1 else 0 := by
  unfold runsK
  rw [List.range_succ, List.countP_append, List.countP_singleton]
theorem runsK_le (L : List Int) (k : Nat) : runsK L k ≤ k := by
  have := List.countP_le_length (p := runAt L) (l := List.range k)
  rwa [List.length_range] at this
def runsV (L : List Int) : Int := if symOk L = true then (runsK L L.length : Int) else -1

/-! ### Steps -/

/-- After m steps of LfOf. -/
def lfIt (L : List Int) (k : Nat) : Nat → Nat
  | 0 => k
  | m + 1 => lfAt L (lfIt L k m)
theorem lfIt_lt {L : List Int} {k : Nat} (h : k < L.length) : ∀ m, lfIt L k m < L.length
  | 0 => h
  | m + 1 => lfAt_lt (lfIt_lt h m)
theorem lfIt_back {L : List Int} {k : Nat} (h : k < L.length) : ∀ (i d : Nat), lfIt L k i = lfIt L k (i + d) → k = lfIt L k d
  | 0, d, e => by rw [Nat.zero_add] at e; exact e
  | i + 1, d, e => by
    rw [show i + 1 + d = (i + d) + 1 by omega] at e
    exact lfIt_back h i d (lfAt_inj (lfIt_lt h i) (lfIt_lt h (i + d)) e)
def stOk (L : List Int) (k m : Int) : Bool := symOk L && decide (0 ≤ k) && decide (k < L.length) && decide (0 ≤ m) && decide (m ≤ 301)
def stV (L : List Int) (k m : Int) : Int := if stOk L k m = true then (lfIt L k.toNat m.toNat : Int) else -1

end Go.Proofs.Ytkjelakdejbolaa
