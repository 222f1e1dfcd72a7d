/- Plain mathematics of the stable sort: blocks sorted by insertion, and merged by rotating. No program here. -/
import Derived.Sort.LotA
import Derived.Shelf.SlSortCmp.Insertion
namespace Go.Proofs.Ytoehgcakfblblaa
open Go.Sort
variable {α : Type} [Inhabited α]

/-- An order lt' that tells apart what cf holds for alike, by where it stood. -/
structure KeyO (cf : α → α → Int) (lt' : α → α → Bool) (idx : α → Nat) : Prop where
  swo : SWO lt'
  agree : ∀ x y, idx x < idx y → ltOf cf y x = lt' y x

section
variable {cf : α → α → Int} {lt' : α → α → Bool} {idx : α → Nat}

omit [Inhabited α] in
theorem KeyO.le_trans (K : KeyO cf lt' idx) {x y z : α} (h1 : lt' y x = false) (h2 : lt' z y = false) : lt' z x = false := K.swo.ntrans z y x h2 h1
omit [Inhabited α] in
theorem KeyO.asym (K : KeyO cf lt' idx) {x y : α} (h : lt' x y = true) : lt' y x = false := K.swo.asymmA h

theorem insInner_perm (lt : α → α → Bool) (a b i : Nat) (hib : i < b) : ∀ (j : Nat) (d : Array α), j ≤ i → b ≤ d.size → PermIn a b d (insInner lt a j d)
  | 0, d, _, _ => by unfold insInner; exact permIn_refl d a b
  | j + 1, d, hji, hb => by
    unfold insInner
    split
    · rename_i hc
      simp only [Bool.and_eq_true, decide_eq_true_eq] at hc
      exact permIn_trans _ _ _ a b (swp_permIn d a b (j + 1) j (by omega) (by omega) (by omega) (by omega) hb) (insInner_perm lt a b i hib j _ (by omega) (by rw [size_swp]; exact hb))
    · exact permIn_refl d a b
theorem insInner_same (K : KeyO cf lt' idx) (a i : Nat) : ∀ (j : Nat) (d : Array α), j ≤ i → i < d.size → (∀ p, a ≤ p → p ≤ i → p ≠ j → idx d[p]! < idx d[j]!) → insInner (ltOf cf) a j d = insInner lt' a j d
  | 0, _, _, _, _ => rfl
  | j + 1, d, hji, hi, h => by
    unfold insInner
    by_cases haj : j + 1 > a
    · have e := K.agree d[j]! d[j + 1]! (h j (by omega) (by omega) (by omega))
      rw [e]
      split
      · refine insInner_same K a i j _ (by omega) (by rw [size_swp]; exact hi) fun p h1 h2 h3 => ?_
        have hj1 : j + 1 < d.size := by omega
        have hj : j < d.size := by omega
        rw [swp_get d hj1 hj, swp_get d hj1 hj, if_neg h3, if_pos rfl]
        by_cases hp : p = j + 1
        · rw [if_pos hp]; exact h j (by omega) (by omega) (by omega)
        · rw [if_neg hp]; exact h p h1 h2 hp
      · rfl
    · simp [haj]
theorem insO_go (lt : α → α → Bool) (a b i : Nat) (d : Array α) (h : i < b) : insOuter lt a b i d = insOuter lt a b (i + 1) (insInner lt a i d) := by rw [insOuter, if_pos h]
theorem insO_stop (lt : α → α → Bool) (a b i : Nat) (d : Array α) (h : ¬ i < b) : insOuter lt a b i d = d := by rw [insOuter, if_neg h]
theorem insOuter_same (K : KeyO cf lt' idx) (a b : Nat) : ∀ (n i : Nat) (d : Array α), b - i ≤ n → a ≤ i → b ≤ d.size → (∀ p q, a ≤ p → p < q → i ≤ q → q < b → idx d[p]! < idx d[q]!) → insOuter (ltOf cf) a b i d = insOuter lt' a b i d
  | 0, i, d, hn, _, _, _ => by
    rw [insO_stop _ _ _ _ _ (by omega), insO_stop _ _ _ _ _ (by omega)]
  | n + 1, i, d, hn, hai, hb, h => by
    by_cases hlt : i < b
    · rw [insO_go _ _ _ _ _ hlt, insO_go _ _ _ _ _ hlt, insInner_same K a i i d (Nat.le_refl _) (by omega) fun p h1 h2 h3 => h p i h1 (by omega) (Nat.le_refl _) hlt]
      have hP := insInner_perm lt' a (i + 1) i (by omega) i d (Nat.le_refl _) (by omega)
      refine insOuter_same K a b n (i + 1) _ (by omega) (by omega) (by rw [hP.1]; exact hb) fun p q h1 h2 h3 h4 => ?_
      rw [hP.2.1 q (by omega)]
      by_cases hp : i + 1 ≤ p
      · rw [hP.2.1 p (by omega)]
        exact h p q h1 h2 (by omega) h4
      · exact permIn_all d _ a (i + 1) (fun x => idx x < idx d[q]!) (by omega) hP (fun k hk1 hk2 => h k q hk1 (by omega) (by omega) h4) p h1 (by omega)
    · rw [insO_stop _ _ _ _ _ hlt, insO_stop _ _ _ _ _ hlt]
/-- Insertion sorts a part that stands in its first order, stably. -/
theorem ins_stable (K : KeyO cf lt' idx) (a b : Nat) (d : Array α) (hab : a ≤ b) (hb : b ≤ d.size) (h : ∀ p q, a ≤ p → p < q → q < b → idx d[p]! < idx d[q]!) :
    PermIn a b d (insertionSort (ltOf cf) d a b) ∧ SortedIn lt' a b (insertionSort (ltOf cf) d a b) := by
  have e : insertionSort (ltOf cf) d a b = insertionSort lt' d a b := insOuter_same K a b (b - (a + 1)) (a + 1) d (Nat.le_refl _) (by omega) hb fun p q h1 h2 h3 h4 => h p q h1 h2 h4
  rw [e]
  exact insertionSort_holds K.swo d a b hab hb
end

/-! ### Rotating -/
/-- Where what stands at k behind a rotation stood ahead of it. -/
def rotS (a m b k : Nat) : Nat := if a ≤ k ∧ k < b then (if k < a + (b - m) then k + (m - a) else k - (b - m)) else k
/-- The same for two parts exchanged. -/
def swS (x y n k : Nat) : Nat := if x ≤ k ∧ k < x + n then k - x + y else if y ≤ k ∧ k < y + n then k - y + x else k
def Moved (s : Nat → Nat) (d d' : Array α) : Prop := d'.size = d.size ∧ ∀ k, d'[k]! = d[s k]!
theorem Moved.refl (s : Nat → Nat) (hs : ∀ k, s k = k) (d : Array α) : Moved s d d := ⟨rfl, fun k => by rw [hs k]⟩
theorem Moved.then {s t u : Nat → Nat} {d d' d'' : Array α} (h : Moved s d d') (h' : Moved t d' d'') (e : ∀ k, s (t k) = u k) : Moved u d d'' :=
  ⟨h'.1.trans h.1, fun k => by rw [h'.2 k, h.2 (t k), e k]⟩
theorem Moved.swp {s u : Nat → Nat} {d d' : Array α} (h : Moved s d d') {i j : Nat} (hi : i < d.size) (hj : j < d.size) (e : ∀ k, (if k = j then s i else if k = i then s j else s k) = u k) : Moved u d (swp d' i j) := by
  refine ⟨by rw [size_swp]; exact h.1, fun k => ?_⟩
  rw [swp_get d' (by rw [h.1]; exact hi) (by rw [h.1]; exact hj), ← e k]
  split
  · rw [h.2]
  · split
    · rw [h.2]
    · rw [h.2]
theorem swS_zero (x y k : Nat) : swS x y 0 k = k := by unfold swS; split; omega; split <;> omega
theorem swS_step (x y n k : Nat) (h : x + n < y) : (if k = y + n then swS x y n (x + n) else if k = x + n then swS x y n (y + n) else swS x y n k) = swS x y (n + 1) k := by
  unfold swS
  split <;> repeat' (first | (split <;> first | omega | skip) | omega)
theorem rotS_gt (m i j k : Nat) (hi : i ≤ m) (hj : 0 < j) (h : j < i) : swS (m - i) m j (rotS (m - i + j) m (m + j) k) = rotS (m - i) m (m + j) k := by
  unfold swS rotS
  repeat' (first | (split <;> first | omega | skip) | omega)
theorem rotS_lt (m i j k : Nat) (hi : i ≤ m) (hi0 : 0 < i) (h : i < j) : swS (m - i) (m + j - i) i (rotS (m - i) m (m + j - i) k) = rotS (m - i) m (m + j) k := by
  unfold swS rotS
  repeat' (first | (split <;> first | omega | skip) | omega)
theorem rotS_eq (m i k : Nat) (hi : i ≤ m) : swS (m - i) m i k = rotS (m - i) m (m + i) k := by
  unfold swS rotS
  repeat' (first | (split <;> first | omega | skip) | omega)
theorem rotS_left (m b k : Nat) : rotS m m b k = k := by unfold rotS; repeat' (first | (split <;> first | omega | skip) | omega)
theorem rotS_right (a m k : Nat) : rotS a m m k = k := by unfold rotS; repeat' (first | (split <;> first | omega | skip) | omega)
theorem rotS_up (a t k : Nat) (h : a ≤ t) : (if k = t + 1 then rotS a (a + 1) (t + 1) t else if k = t then rotS a (a + 1) (t + 1) (t + 1) else rotS a (a + 1) (t + 1) k) = rotS a (a + 1) (t + 2) k := by
  unfold rotS
  repeat' (first | (split <;> first | omega | skip) | omega)
theorem rotS_down (t m k : Nat) (h : t < m) : (if k = t then rotS (t + 1) m (m + 1) (t + 1) else if k = t + 1 then rotS (t + 1) m (m + 1) t else rotS (t + 1) m (m + 1) k) = rotS t m (m + 1) k := by
  unfold rotS
  repeat' (first | (split <;> first | omega | skip) | omega)

/-! ### Merging -/
section
variable {cf : α → α → Int} {lt' : α → α → Bool} {idx : α → Nat}

/-- What stands in [a, m) stood ahead of what stands in [m, b). -/
def OrdI (idx : α → Nat) (a m b : Nat) (d : Array α) : Prop := ∀ p q, a ≤ p → p < m → m ≤ q → q < b → idx d[p]! < idx d[q]!
/-- Nothing in [m, b) is less than anything in [a, m). -/
def Cross (lt' : α → α → Bool) (a m b : Nat) (d : Array α) : Prop := ∀ p q, a ≤ p → p < m → m ≤ q → q < b → lt' d[q]! d[p]! = false

theorem sorted_cross {a m b : Nat} {d : Array α} (h1 : SortedIn lt' a m d) (h2 : SortedIn lt' m b d) (h3 : Cross lt' a m b d) : SortedIn lt' a b d := by
  intro i j hi hij hj
  by_cases hjm : j < m
  · exact h1 i j hi hij hjm
  · by_cases him : i < m
    · exact h3 i j hi him (by omega) hj
    · exact h2 i j (by omega) hij hj
theorem sortedIn_same {a b : Nat} {d d' : Array α} (h : SortedIn lt' a b d) (e : ∀ k, a ≤ k → k < b → d'[k]! = d[k]!) : SortedIn lt' a b d' := fun i j hi hij hj => by
  rw [e i hi (by omega), e j (by omega) hj]
  exact h i j hi hij hj
theorem cross_perm {a m b : Nat} {d d' : Array α} (hb : b ≤ d.size) (ham : a ≤ m) (hmb : m ≤ b) (h : Cross lt' a m b d) (hP : PermIn a m d d') : Cross lt' a m b d' := by
  intro p q h1 h2 h3 h4
  rw [hP.2.1 q (by omega)]
  exact permIn_all d d' a m (fun x => lt' d[q]! x = false) (by omega) hP (fun k hk1 hk2 => h k q hk1 hk2 h3 h4) p h1 h2
theorem cross_perm2 {a m b : Nat} {d d' : Array α} (hb : b ≤ d.size) (ham : a ≤ m) (hmb : m ≤ b) (h : Cross lt' a m b d) (hP : PermIn m b d d') : Cross lt' a m b d' := by
  intro p q h1 h2 h3 h4
  rw [hP.2.1 p (by omega)]
  exact permIn_all d d' m b (fun x => lt' x d[p]! = false) hb hP (fun k hk1 hk2 => h p k h1 h2 hk1 hk2) q h3 h4

/-- One element put into its place from the left. -/
theorem put_left (K : KeyO cf lt' idx) {a i b : Nat} {d d' : Array α} (hS : SortedIn lt' (a + 1) b d) (hai : a + 1 ≤ i) (hib : i ≤ b)
    (h1 : i = a + 1 ∨ lt' d[i - 1]! d[a]! = true) (h2 : i = b ∨ lt' d[i]! d[a]! = false) (hM : Moved (rotS a (a + 1) i) d d') : SortedIn lt' a b d' := by
  intro p q hp hpq hq
  rw [hM.2 p, hM.2 q]
  have lo : ∀ x, a + 1 ≤ x → x < i → lt' d[a]! d[x]! = false := fun x hx1 hx2 => by
    rcases h1 with h1 | h1
    · omega
    · have e := K.asym h1
      by_cases hx : x = i - 1
      · rw [hx]; exact e
      · exact K.le_trans (hS x (i - 1) hx1 (by omega) (by omega)) e
  have hi : ∀ x, i ≤ x → x < b → lt' d[x]! d[a]! = false := fun x hx1 hx2 => by
    rcases h2 with h2 | h2
    · omega
    · by_cases hx : x = i
      · rw [hx]; exact h2
      · exact K.le_trans h2 (hS i x hai (by omega) hx2)
  have ep : rotS a (a + 1) i p = if p < i then (if p + 1 < i then p + 1 else a) else p := by unfold rotS; repeat' (first | (split <;> first | omega | skip) | omega)
  have eq : rotS a (a + 1) i q = if q < i then (if q + 1 < i then q + 1 else a) else q := by unfold rotS; repeat' (first | (split <;> first | omega | skip) | omega)
  rw [ep, eq]
  by_cases hpi : p < i
  · rw [if_pos hpi]
    by_cases hqi : q < i
    · rw [if_pos hqi, if_pos (show p + 1 < i by omega)]
      by_cases hq1 : q + 1 < i
      · rw [if_pos hq1]; exact hS (p + 1) (q + 1) (by omega) (by omega) (by omega)
      · rw [if_neg hq1]; exact lo (p + 1) (by omega) (by omega)
    · rw [if_neg hqi]
      by_cases hp1 : p + 1 < i
      · rw [if_pos hp1]; exact hS (p + 1) q (by omega) (by omega) hq
      · rw [if_neg hp1]; exact hi q (by omega) hq
  · rw [if_neg hpi, if_neg (show ¬ q < i by omega)]
    exact hS p q (by omega) hpq hq
/-- One element put into its place from the right. -/
theorem put_right (K : KeyO cf lt' idx) {a i m : Nat} {d d' : Array α} (hS : SortedIn lt' a m d) (hai : a ≤ i) (him : i ≤ m)
    (h1 : i = a ∨ lt' d[m]! d[i - 1]! = false) (h2 : i = m ∨ lt' d[m]! d[i]! = true) (hM : Moved (rotS i m (m + 1)) d d') : SortedIn lt' a (m + 1) d' := by
  intro p q hp hpq hq
  rw [hM.2 p, hM.2 q]
  have lo : ∀ x, a ≤ x → x < i → lt' d[m]! d[x]! = false := fun x hx1 hx2 => by
    rcases h1 with h1 | h1
    · omega
    · by_cases hx : x = i - 1
      · rw [hx]; exact h1
      · exact K.le_trans (hS x (i - 1) hx1 (by omega) (by omega)) h1
  have hi : ∀ x, i ≤ x → x < m → lt' d[x]! d[m]! = false := fun x hx1 hx2 => by
    rcases h2 with h2 | h2
    · omega
    · have e := K.asym h2
      by_cases hx : x = i
      · rw [hx]; exact e
      · exact K.le_trans e (hS i x hai (by omega) hx2)
  have ep : rotS i m (m + 1) p = if p < i then p else if p = i then m else p - 1 := by unfold rotS; repeat' (first | (split <;> first | omega | skip) | omega)
  have eq : rotS i m (m + 1) q = if q < i then q else if q = i then m else q - 1 := by unfold rotS; repeat' (first | (split <;> first | omega | skip) | omega)
  rw [ep, eq]
  by_cases hpi : p < i
  · rw [if_pos hpi]
    by_cases hqi : q < i
    · rw [if_pos hqi]; exact hS p q hp hpq (by omega)
    · rw [if_neg hqi]
      by_cases hqe : q = i
      · rw [if_pos hqe]; exact lo p hp hpi
      · rw [if_neg hqe]; exact hS p (q - 1) hp (by omega) (by omega)
  · rw [if_neg hpi, if_neg (show ¬ q < i by omega), if_neg (show ¬ q = i by omega)]
    by_cases hpe : p = i
    · rw [if_pos hpe]; exact hi (q - 1) (by omega) (by omega)
    · rw [if_neg hpe]; exact hS (p - 1) (q - 1) (by omega) (by omega) (by omega)

/-- Behind the rotation: two pairs of runs, and nothing of the right one is less than anything of the left one. -/
theorem sym_prep (K : KeyO cf lt' idx) {a m b mid s t : Nat} {d d' : Array α} (h1 : SortedIn lt' a m d) (h2 : SortedIn lt' m b d) (h3 : OrdI idx a m b d)
    (hs1 : a ≤ s) (hs2 : s ≤ m) (hs3 : s ≤ mid) (ht1 : m ≤ t) (ht2 : mid ≤ t) (ht3 : t ≤ b) (he : s + t = mid + m)
    (hlo : s = a ∨ t = b ∨ lt' d[t]! d[s - 1]! = false) (hhi : t = m ∨ s = m ∨ lt' d[t - 1]! d[s]! = true) (hM : Moved (rotS s m t) d d') :
    SortedIn lt' a s d' ∧ SortedIn lt' s mid d' ∧ OrdI idx a s mid d' ∧ SortedIn lt' mid t d' ∧ SortedIn lt' t b d' ∧ OrdI idx mid t b d' ∧ Cross lt' a mid b d' := by
  have e1 : ∀ k, k < s → d'[k]! = d[k]! := fun k hk => by
    rw [hM.2 k]; congr 1; unfold rotS; rw [if_neg (by omega)]
  have e2 : ∀ k, s ≤ k → k < mid → d'[k]! = d[k + (m - s)]! := fun k hk1 hk2 => by
    rw [hM.2 k]; congr 1; unfold rotS; rw [if_pos (by omega), if_pos (by omega)]
  have e3 : ∀ k, mid ≤ k → k < t → d'[k]! = d[k - (t - m)]! := fun k hk1 hk2 => by
    rw [hM.2 k]; congr 1; unfold rotS; rw [if_pos (by omega), if_neg (by omega)]
  have e4 : ∀ k, t ≤ k → d'[k]! = d[k]! := fun k hk => by
    rw [hM.2 k]; congr 1; unfold rotS; rw [if_neg (by omega)]
  have c12 : ∀ x y, a ≤ x → x < s → t ≤ y → y < b → lt' d[y]! d[x]! = false := fun x y hx1 hx2 hy1 hy2 => by
    rcases hlo with h | h | h
    · omega
    · omega
    · have u1 : lt' d[t]! d[x]! = false := by
        by_cases hx : x = s - 1
        · rw [hx]; exact h
        · exact K.le_trans (h1 x (s - 1) hx1 (by omega) (by omega)) h
      by_cases hy : y = t
      · rw [hy]; exact u1
      · exact K.le_trans u1 (h2 t y ht1 (by omega) hy2)
  have c21 : ∀ x y, m ≤ x → x < t → s ≤ y → y < m → lt' d[y]! d[x]! = false := fun x y hx1 hx2 hy1 hy2 => by
    rcases hhi with h | h | h
    · omega
    · omega
    · have h := K.asym h
      have u1 : lt' d[s]! d[x]! = false := by
        by_cases hx : x = t - 1
        · rw [hx]; exact h
        · exact K.le_trans (h2 x (t - 1) hx1 (by omega) (by omega)) h
      by_cases hy : y = s
      · rw [hy]; exact u1
      · exact K.le_trans u1 (h1 s y hs1 (by omega) hy2)
  refine ⟨fun i j hi hij hj => ?_, fun i j hi hij hj => ?_, fun p q hp1 hp2 hq1 hq2 => ?_, fun i j hi hij hj => ?_, fun i j hi hij hj => ?_, fun p q hp1 hp2 hq1 hq2 => ?_, fun p q hp1 hp2 hq1 hq2 => ?_⟩
  · rw [e1 i (by omega), e1 j hj]; exact h1 i j hi hij (by omega)
  · rw [e2 i hi (by omega), e2 j (by omega) hj]; exact h2 _ _ (by omega) (by omega) (by omega)
  · rw [e1 p hp2, e2 q hq1 hq2]; exact h3 _ _ hp1 (by omega) (by omega) (by omega)
  · rw [e3 i hi (by omega), e3 j (by omega) hj]; exact h1 _ _ (by omega) (by omega) (by omega)
  · rw [e4 i hi, e4 j (by omega)]; exact h2 i j (by omega) hij hj
  · rw [e3 p hp1 hp2, e4 q hq1]; exact h3 _ _ (by omega) (by omega) (by omega) hq2
  · by_cases hp : p < s
    · rw [e1 p hp]
      by_cases hq : q < t
      · rw [e3 q hq1 hq]; exact h1 _ _ hp1 (by omega) (by omega)
      · rw [e4 q (by omega)]; exact c12 p q hp1 hp (by omega) hq2
    · rw [e2 p (by omega) hp2]
      by_cases hq : q < t
      · rw [e3 q hq1 hq]; exact c21 _ _ (by omega) (by omega) (by omega) (by omega)
      · rw [e4 q (by omega)]; exact h2 _ _ (by omega) (by omega) hq2

/-! ### Blocks -/
/-- What stands in an earlier block of bs stood ahead. -/
def OrdB (idx : α → Nat) (bs n : Nat) (d : Array α) : Prop := ∀ p q, p < n → q < n → p / bs < q / bs → idx d[p]! < idx d[q]!
theorem OrdB.double {bs n : Nat} {d : Array α} (h : OrdB idx bs n d) : OrdB idx (bs * 2) n d := fun p q hp hq hpq => by
  refine h p q hp hq ?_
  rcases Nat.lt_or_ge (p / bs) (q / bs) with h2 | h2
  · exact h2
  · have h3 := Nat.div_le_div_right (c := 2) h2
    rw [Nat.div_div_eq_div_mul, Nat.div_div_eq_div_mul] at h3
    omega
theorem OrdB.perm {bs n a b t : Nat} {d d' : Array α} (h : OrdB idx bs n d) (hn : n ≤ d.size) (hb : b ≤ n) (hblk : ∀ k, a ≤ k → k < b → k / bs = t) (hP : PermIn a b d d') : OrdB idx bs n d' := by
  have src : ∀ p, p < n → ∃ p', p' < n ∧ p' / bs = p / bs ∧ d'[p]! = d[p']! := fun p hp => by
    by_cases hin : a ≤ p ∧ p < b
    · refine permIn_all d d' a b (fun x => ∃ p', p' < n ∧ p' / bs = p / bs ∧ x = d[p']!) (by omega) hP (fun k hk1 hk2 => ⟨k, by omega, ?_, rfl⟩) p hin.1 hin.2
      rw [hblk k hk1 hk2, hblk p hin.1 hin.2]
    · exact ⟨p, hp, rfl, hP.2.1 p (by omega)⟩
  intro p q hp hq hpq
  obtain ⟨p', hp1, hp2, hp3⟩ := src p hp
  obtain ⟨q', hq1, hq2, hq3⟩ := src q hq
  rw [hp3, hq3]
  exact h p' q' hp1 hq1 (by omega)
end

end Go.Proofs.Ytoehgcakfblblaa
