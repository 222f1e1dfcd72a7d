/- Plain mathematics of valid sparse lists: the numbers that High and Low give. -/
import Derived.Test.YtlbnngolcoefdaaDoorSpMath
import Derived.Test.YtlbnngolcoefdaaDoorRankMath
import Derived.Test.YtlbnngolcoefdaaDoorPackMath
namespace Go.Proofs.YtlbnngolcoefdaaDoor

/-- The numbers that the first k bits of High and the low parts give. -/
def spl (wd : Nat) (low : List Int) (Vs : List Nat) : Nat → List Int
  | 0 => []
  | k + 1 => if bitN Vs k = 1 then (match low[cnt Vs 1 k]? with
    | some y => spl wd low Vs k ++ [(cnt Vs 0 k : Int) * 2 ^ wd + y]
    | none => spl wd low Vs k) else spl wd low Vs k

section
variable (wd : Nat) (low : List Int) (Vs : List Nat)

theorem spl_no (k : Nat) (h : ¬ bitN Vs k = 1) : spl wd low Vs (k + 1) = spl wd low Vs k := by rw [spl, if_neg h]
theorem spl_push (k : Nat) (y : Int) (h : bitN Vs k = 1) (hy : low[cnt Vs 1 k]? = some y) : spl wd low Vs (k + 1) = spl wd low Vs k ++ [(cnt Vs 0 k : Int) * 2 ^ wd + y] := by
  rw [spl, if_pos h, hy]
theorem spl_full (k : Nat) (hy : low.length ≤ cnt Vs 1 k) : spl wd low Vs (k + 1) = spl wd low Vs k := by
  have : low[cnt Vs 1 k]? = none := List.getElem?_eq_none hy
  rw [spl, this]
  simp

theorem cnt_one (k : Nat) : cnt Vs 1 (k + 1) = cnt Vs 1 k + if bitN Vs k = 1 then 1 else 0 := by
  rw [cnt]
  by_cases h : bitN Vs k = 1
  · rw [if_pos h, if_pos (by omega)]
  · rw [if_neg h, if_neg (by omega)]

theorem spl_len (k : Nat) : (spl wd low Vs k).length = min (cnt Vs 1 k) low.length := by
  induction k with
  | zero => simp [spl, cnt]
  | succ k ih =>
    rw [cnt_one]
    by_cases h : bitN Vs k = 1
    · rw [if_pos h]
      by_cases hl : cnt Vs 1 k < low.length
      · rw [spl_push wd low Vs k _ h (List.getElem?_eq_getElem hl), List.length_append, ih]
        simp
        omega
      · rw [spl_full wd low Vs k (by omega), ih]
        omega
    · rw [if_neg h, spl_no wd low Vs k h, ih]
      omega

theorem spl_at (k : Nat) : ∀ (i : Nat) (x : Int), (spl wd low Vs k)[i]? = some x → ∃ p y, p < k ∧ bitN Vs p = 1 ∧ cnt Vs 1 p = i ∧ low[i]? = some y ∧ x = (cnt Vs 0 p : Int) * 2 ^ wd + y := by
  induction k with
  | zero => intro i x h; simp [spl] at h
  | succ k ih =>
    intro i x h
    have up : (spl wd low Vs k)[i]? = some x → ∃ p y, p < k + 1 ∧ bitN Vs p = 1 ∧ cnt Vs 1 p = i ∧ low[i]? = some y ∧ x = (cnt Vs 0 p : Int) * 2 ^ wd + y := fun h => by
      obtain ⟨p, y, h1, h2⟩ := ih i x h
      exact ⟨p, y, by omega, h2⟩
    by_cases hb : bitN Vs k = 1
    · by_cases hl : cnt Vs 1 k < low.length
      · rw [spl_push wd low Vs k _ hb (List.getElem?_eq_getElem hl)] at h
        have hlen := spl_len wd low Vs k
        by_cases hi : i < (spl wd low Vs k).length
        · rw [List.getElem?_append_left hi] at h
          exact up h
        · rw [List.getElem?_append_right (by omega)] at h
          have hi0 : i - (spl wd low Vs k).length = 0 := by
            have := (List.getElem?_eq_some_iff.1 h).1
            simp at this
            omega
          rw [hi0] at h
          simp at h
          have hii : i = cnt Vs 1 k := by omega
          subst hii
          exact ⟨k, _, by omega, hb, rfl, List.getElem?_eq_getElem hl, h.symm⟩
      · rw [spl_full wd low Vs k (by omega)] at h
        exact up h
    · rw [spl_no wd low Vs k hb] at h
      exact up h

theorem spl_has (k : Nat) : ∀ (p : Nat) (y : Int), p < k → bitN Vs p = 1 → low[cnt Vs 1 p]? = some y → (spl wd low Vs k)[cnt Vs 1 p]? = some ((cnt Vs 0 p : Int) * 2 ^ wd + y) := by
  induction k with
  | zero => intro p y h; omega
  | succ k ih =>
    intro p y hp hb hy
    have hlen := spl_len wd low Vs k
    have hly := (List.getElem?_eq_some_iff.1 hy).1
    by_cases hpk : p = k
    · subst hpk
      rw [spl_push wd low Vs p y hb hy, List.getElem?_append_right (by omega)]
      have : cnt Vs 1 p - (spl wd low Vs p).length = 0 := by omega
      rw [this]
      rfl
    · have h := ih p y (by omega) hb hy
      have hl := (List.getElem?_eq_some_iff.1 h).1
      by_cases hbk : bitN Vs k = 1
      · by_cases hlk : cnt Vs 1 k < low.length
        · rw [spl_push wd low Vs k _ hbk (List.getElem?_eq_getElem hlk), List.getElem?_append_left hl]
          exact h
        · rw [spl_full wd low Vs k (by omega)]
          exact h
      · rw [spl_no wd low Vs k hbk]
        exact h

theorem cntS_mono (b : Int) : ∀ {k m : Nat}, k ≤ m → cnt Vs b k ≤ cnt Vs b m
  | k, 0, h => by rw [Nat.le_zero.1 h]; exact Nat.le_refl _
  | k, m + 1, h => by
    by_cases e : k = m + 1
    · rw [e]; exact Nat.le_refl _
    · have := cntS_mono b (k := k) (m := m) (by omega)
      rw [cnt]
      omega
theorem cntS_lt {p k : Nat} (h : p < k) (hb : bitN Vs p = 1) : cnt Vs 1 p < cnt Vs 1 k := by
  have h1 := cntS_mono Vs 1 (k := p + 1) (m := k) h
  rw [cnt_one, if_pos hb] at h1
  omega
theorem cntS_reach (k : Nat) : ∀ m, m < cnt Vs 1 k → ∃ p, p < k ∧ bitN Vs p = 1 ∧ cnt Vs 1 p = m := by
  induction k with
  | zero => intro m h; simp [cnt] at h
  | succ k ih =>
    intro m h
    by_cases hm : m < cnt Vs 1 k
    · obtain ⟨p, h1, h2⟩ := ih m hm
      exact ⟨p, by omega, h2⟩
    · rw [cnt_one] at h
      by_cases hb : bitN Vs k = 1
      · rw [if_pos hb] at h
        exact ⟨k, by omega, hb, by omega⟩
      · rw [if_neg hb] at h
        omega

theorem quo_rem (c : Nat) (y : Int) (h0 : 0 ≤ y) (h1 : y < 2 ^ wd) : (((c : Int) * 2 ^ wd + y) / 2 ^ wd).toNat = c ∧ ((c : Int) * 2 ^ wd + y) % 2 ^ wd = y := by
  have hp : (0 : Int) < 2 ^ wd := Int.pow_pos (by omega)
  constructor
  · rw [Int.mul_comm, Int.mul_add_ediv_left _ _ (by omega), Int.ediv_eq_zero_of_lt h0 h1, Int.add_zero, Int.toNat_natCast]
  · rw [Int.mul_comm, Int.mul_add_emod_self_left, Int.emod_eq_of_lt h0 h1]

variable (hlow : ∀ y ∈ low, 0 ≤ y ∧ y < 2 ^ wd)
include hlow

theorem spl_rems (k : Nat) (hl : (spl wd low Vs k).length = low.length) : (spl wd low Vs k).map (fun x => x % 2 ^ wd) = low := by
  apply List.ext_getElem?
  intro i
  rw [List.getElem?_map]
  by_cases hi : i < low.length
  · have hx : (spl wd low Vs k)[i]? = some ((spl wd low Vs k)[i]'(by omega)) := List.getElem?_eq_getElem _
    obtain ⟨p, y, _, _, _, hy, e⟩ := spl_at wd low Vs k i _ hx
    rw [hx, Option.map_some, e, hy, (quo_rem wd _ y (hlow y (List.mem_of_getElem? hy)).1 (hlow y (List.mem_of_getElem? hy)).2).2]
  · rw [List.getElem?_eq_none (by omega), List.getElem?_eq_none (by omega)]
    rfl

/-- The number i of the list stands at the bit i + its quotient. -/
theorem spl_place (k i : Nat) (hi : i < (spl wd low Vs k).length) : i + qt (spl wd low Vs k) wd i < k ∧ bitN Vs (i + qt (spl wd low Vs k) wd i) = 1 ∧ cnt Vs 1 (i + qt (spl wd low Vs k) wd i) = i := by
  have hx : (spl wd low Vs k)[i]? = some ((spl wd low Vs k)[i]'hi) := List.getElem?_eq_getElem _
  obtain ⟨p, y, h1, h2, h3, hy, e⟩ := spl_at wd low Vs k i _ hx
  have hq : qt (spl wd low Vs k) wd i = cnt Vs 0 p := by
    rw [qt_at hx, e, (quo_rem wd _ y (hlow y (List.mem_of_getElem? hy)).1 (hlow y (List.mem_of_getElem? hy)).2).1]
  have hs := cnt_sum Vs p
  have hp : i + qt (spl wd low Vs k) wd i = p := by omega
  rw [hp]
  exact ⟨h1, h2, h3⟩

theorem spl_any (k j : Nat) (hj : j < k) (hc : cnt Vs 1 k ≤ low.length) : (List.range (spl wd low Vs k).length).any (fun i => decide (i + qt (spl wd low Vs k) wd i = j)) = true ↔ bitN Vs j = 1 := by
  rw [List.any_eq_true]
  constructor
  · rintro ⟨i, hi, he⟩
    rw [List.mem_range] at hi
    rw [decide_eq_true_iff] at he
    have := spl_place wd low Vs hlow k i hi
    rw [he] at this
    exact this.2.1
  · intro hb
    have hlt := cntS_lt Vs hj hb
    have hx := spl_has wd low Vs k j _ hj hb (List.getElem?_eq_getElem (by omega))
    have hl := (List.getElem?_eq_some_iff.1 hx).1
    refine ⟨cnt Vs 1 j, List.mem_range.2 hl, ?_⟩
    have hy := hlow _ (List.getElem_mem (l := low) (n := cnt Vs 1 j) (by omega))
    rw [decide_eq_true_iff, qt_at hx, (quo_rem wd _ _ hy.1 hy.2).1]
    have := cnt_sum Vs j
    omega

theorem spl_hb (k : Nat) (hc : cnt Vs 1 k ≤ low.length) : hb (spl wd low Vs k) wd (spl wd low Vs k).length k = bitsOf k Vs := by
  unfold hb bitsOf
  apply List.map_congr_left
  intro j hj
  rw [List.mem_range] at hj
  have h := spl_any wd low Vs hlow k j hj hc
  have h2 := bitN_lt Vs j
  by_cases hb : bitN Vs j = 1
  · rw [if_pos (h.2 hb), hb]; rfl
  · rw [if_neg (fun e => hb (h.1 e))]
    have : bitN Vs j = 0 := by omega
    rw [this]; rfl

theorem spl_cnt (k : Nat) (he : bitsOf k Vs = hb (spl wd low Vs k) wd (spl wd low Vs k).length k) (hn : (spl wd low Vs k).length = low.length) : cnt Vs 1 k = low.length := by
  have hl := spl_len wd low Vs k
  by_cases hc : cnt Vs 1 k ≤ low.length
  · omega
  · exfalso
    obtain ⟨p, h1, h2, h3⟩ := cntS_reach Vs k low.length (by omega)
    have hg : (bitsOf k Vs)[p]? = some 1 := by rw [bitsOf_get _ _ _ h1, h2]; rfl
    rw [he] at hg
    unfold hb at hg
    rw [List.getElem?_map, List.getElem?_range h1, Option.map_some] at hg
    have hg := Option.some.inj hg
    split at hg
    · rename_i ha
      rw [List.any_eq_true] at ha
      obtain ⟨i, hi, e⟩ := ha
      rw [List.mem_range] at hi
      rw [decide_eq_true_iff] at e
      have := (spl_place wd low Vs hlow k i hi).2.2
      rw [e] at this
      omega
    · omega
end

theorem packNum_unpack (wd V : Nat) : ∀ n, packNum wd (unpack wd n V) = V % 2 ^ (n * wd)
  | 0 => by simp [unpack, packNum_nil, Nat.mod_one]
  | n + 1 => by
    rw [unpack_succ, packNum_snoc wd _ _ (Nat.mod_lt _ (Nat.two_pow_pos _)), unpack_len, packNum_unpack wd V n, Nat.succ_mul, Nat.pow_add, Nat.mod_mul]

end Go.Proofs.YtlbnngolcoefdaaDoor
