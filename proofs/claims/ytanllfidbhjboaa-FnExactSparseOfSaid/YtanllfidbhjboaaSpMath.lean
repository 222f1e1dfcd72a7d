/- Plain mathematics of sparse lists. -/
import Derived.Test.YtanllfidbhjboaaBitMath
namespace Go.Proofs.Ytanllfidbhjboaa

/-- Is the list non-decreasing from l on, all below u? -/
def srt (u : Int) : Int → List Int → Bool
  | _, [] => true
  | l, x :: xs => decide (l ≤ x ∧ x < u) && srt u x xs

theorem srt_append (u : Int) : ∀ (a b : List Int) (l : Int), srt u l (a ++ b) = (srt u l a && srt u (a.getLastD l) b)
  | [], b, l => by simp [srt]
  | x :: xs, b, l => by
    rw [List.cons_append, srt, srt, srt_append u xs b x, Bool.and_assoc]
    congr 2
    cases xs <;> simp [List.getLastD]

theorem srt_snoc (u : Int) (a : List Int) (x l : Int) : srt u l (a ++ [x]) = (srt u l a && decide (a.getLastD l ≤ x ∧ x < u)) := by
  rw [srt_append, srt, srt, Bool.and_true]

theorem srt_before {u l : Int} {a z : List Int} (h : a <+: z) (hz : srt u l z = true) : srt u l a = true := by
  obtain ⟨b, rfl⟩ := h
  rw [srt_append, Bool.and_eq_true] at hz
  exact hz.1

theorem srt_get {u : Int} : ∀ {B : List Int} {l : Int}, srt u l B = true → ∀ (i : Nat) (x : Int), B[i]? = some x → l ≤ x ∧ x < u
  | [], _, _, i, x, hx => by simp at hx
  | y :: ys, l, h, i, x, hx => by
    rw [srt, Bool.and_eq_true, decide_eq_true_iff] at h
    cases i with
    | zero =>
      rw [List.getElem?_cons_zero] at hx
      cases hx
      exact h.1
    | succ i =>
      rw [List.getElem?_cons_succ] at hx
      have := srt_get h.2 i x hx
      omega

theorem srt_mono {u : Int} : ∀ {B : List Int} {l : Int}, srt u l B = true → ∀ (i j : Nat) (x y : Int), i ≤ j → B[i]? = some x → B[j]? = some y → x ≤ y
  | [], _, _, i, j, x, y, _, hx, _ => by simp at hx
  | z :: zs, l, h, i, j, x, y, hij, hx, hy => by
    rw [srt, Bool.and_eq_true] at h
    cases i with
    | zero =>
      rw [List.getElem?_cons_zero] at hx
      cases hx
      cases j with
      | zero => rw [List.getElem?_cons_zero] at hy; cases hy; exact Int.le_refl _
      | succ j =>
        rw [List.getElem?_cons_succ] at hy
        exact (srt_get h.2 j y hy).1
    | succ i =>
      cases j with
      | zero => omega
      | succ j =>
        rw [List.getElem?_cons_succ] at hx hy
        exact srt_mono h.2 i j x y (by omega) hx hy

/-- The last of the first k. -/
theorem last_take (B : List Int) (k : Nat) (x l : Int) (h : B[k]? = some x) : (B.take (k + 1)).getLastD l = x := by
  rw [List.take_add_one, h]
  simp [List.getLastD_eq_getLast?]

theorem srt_take (u : Int) (B : List Int) (k : Nat) (x l : Int) (h : B[k]? = some x) : srt u l (B.take (k + 1)) = (srt u l (B.take k) && decide ((B.take k).getLastD l ≤ x ∧ x < u)) := by
  rw [List.take_add_one, h, Option.toList_some, srt_snoc]

/-- The quotient of the number i. -/
def qt (B : List Int) (w i : Nat) : Nat := ((B[i]?.getD 0) / 2 ^ w).toNat

theorem qt_at {B : List Int} {w i : Nat} {x : Int} (h : B[i]? = some x) : qt B w i = (x / 2 ^ w).toNat := by
  unfold qt
  rw [h]
  rfl

/-- The bits of High: m of them, the first k numbers laid. -/
def hb (B : List Int) (w k m : Nat) : List Int := (List.range m).map fun j => if (List.range k).any (fun i => decide (i + qt B w i = j)) then 1 else 0

theorem hb_len (B : List Int) (w k m : Nat) : (hb B w k m).length = m := by simp [hb]

theorem hb_zero (B : List Int) (w m : Nat) : hb B w 0 m = List.replicate m 0 := by
  unfold hb
  simp only [List.range_zero, List.any_nil, Bool.false_eq_true, if_false]
  rw [List.map_const', List.length_range]

theorem hb_bits (B : List Int) (w k m : Nat) : ∀ x ∈ hb B w k m, x = 0 ∨ x = 1 := by
  intro x hx
  unfold hb at hx
  rw [List.mem_map] at hx
  obtain ⟨j, _, rfl⟩ := hx
  split
  · exact .inr rfl
  · exact .inl rfl

theorem any_succ (k : Nat) (p : Nat → Bool) : (List.range (k + 1)).any p = ((List.range k).any p || p k) := by
  rw [List.range_succ, List.any_append]
  simp

theorem hb_one (B : List Int) (w k q : Nat) (h : qt B w k = q) : hb B w (k + 1) (k + q + 1) = hb B w k (k + q) ++ [1] := by
  unfold hb
  rw [List.range_succ (n := k + q), List.map_append]
  congr 1
  · apply List.map_congr_left
    intro j hj
    rw [List.mem_range] at hj
    rw [any_succ, show decide (k + qt B w k = j) = false from decide_eq_false (by omega), Bool.or_false]
  · simp only [List.map_cons, List.map_nil]
    rw [any_succ, show decide (k + qt B w k = k + q) = true from decide_eq_true (by omega), Bool.or_true, if_pos rfl]

theorem hb_nil (B : List Int) (w k q : Nat) (h : ∀ i, i < k → qt B w i ≤ q) : hb B w k (k + q + 1) = hb B w k (k + q) ++ [0] := by
  unfold hb
  rw [List.range_succ (n := k + q), List.map_append]
  congr 1
  simp only [List.map_cons, List.map_nil]
  have h0 : (List.range k).any (fun i => decide (i + qt B w i = k + q)) = false := by
    rw [List.any_eq_false]
    intro i hi
    rw [List.mem_range] at hi
    have := h i hi
    simp only [decide_eq_true_iff]
    omega
  rw [h0]
  rfl

theorem hb_set (B : List Int) (w k m : Nat) : hb B w (k + 1) m = (hb B w k m).set (k + qt B w k) 1 := by
  apply List.ext_getElem?
  intro j
  rw [List.getElem?_set]
  unfold hb
  simp only [List.getElem?_map, List.length_map, List.length_range]
  by_cases hj : j < m
  · rw [List.getElem?_range hj]
    simp only [Option.map_some]
    rw [any_succ]
    by_cases he : k + qt B w k = j
    · rw [decide_eq_true he, Bool.or_true, if_pos rfl, if_pos he, if_pos (by omega)]
    · rw [decide_eq_false he, Bool.or_false, if_neg he]
  · have : (List.range m)[j]? = none := List.getElem?_eq_none (by simp; omega)
    rw [this]
    simp only [Option.map_none]
    by_cases he : k + qt B w k = j
    · rw [if_pos he, if_neg (by omega)]
    · rw [if_neg he]

/-- The low width. -/
def lowN (n u : Nat) (bl : Nat → Nat) : Nat := if n = 0 then 0 else bl (u / n) - 1

end Go.Proofs.Ytanllfidbhjboaa
