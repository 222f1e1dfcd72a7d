/- Lists that hold each of their indices once, and their inverses. Nothing of the program stands here. -/
import Derived.Test.YtkjelakdejbolaaMem
namespace Go.Proofs.Ytkjelakdejbolaa
open Go.RowKit

theorem pig : ∀ (m : Nat) (L : List Int), L.length = m → (∀ x : Nat, x < m → (x : Int) ∈ L) → L.Nodup ∧ ∀ y ∈ L, 0 ≤ y ∧ y < m
  | 0, L, hl, _ => by
    obtain rfl := List.length_eq_zero_iff.1 hl
    simp
  | m + 1, L, hl, h => by
    have hm := h m (by omega)
    have hp := List.perm_cons_erase hm
    have hl2 : (L.erase (m : Int)).length = m := by rw [List.length_erase_of_mem hm, hl]; rfl
    obtain ⟨hn, hb⟩ := pig m (L.erase (m : Int)) hl2 fun x hx => (List.mem_erase_of_ne (by omega)).2 (h x (by omega))
    constructor
    · refine hp.nodup_iff.2 (List.nodup_cons.2 ⟨fun hc => ?_, hn⟩)
      have := (hb _ hc).2
      omega
    · intro y hy
      rcases List.mem_cons.1 (hp.mem_iff.1 hy) with rfl | hy
      · omega
      · have := hb y hy
        omega

theorem pig2 : ∀ (m : Nat) (L : List Int), L.length = m → L.Nodup → (∀ y ∈ L, 0 ≤ y ∧ y < m) → ∀ x : Nat, x < m → (x : Int) ∈ L
  | 0, L, hl, _, _, x, hx => by omega
  | m + 1, L, hl, hn, hb, x, hx => by
    by_cases hm : (m : Int) ∈ L
    · by_cases hxm : x = m
      · subst hxm; exact hm
      · have hl2 : (L.erase (m : Int)).length = m := by rw [List.length_erase_of_mem hm, hl]; rfl
        have := pig2 m (L.erase (m : Int)) hl2 (hn.erase _) (fun y hy => by
          have h1 := hb y (List.mem_of_mem_erase hy)
          have h2 : y ≠ (m : Int) := fun e => by
            subst e
            exact (List.Nodup.not_mem_erase hn) hy
          omega) x (by omega)
        exact List.mem_of_mem_erase this
    · exfalso
      cases L with
      | nil => simp at hl
      | cons y r =>
        have hr : r.length = m := by simpa using hl
        obtain ⟨hy, hnr⟩ := List.nodup_cons.1 hn
        have hb2 : ∀ z ∈ y :: r, 0 ≤ z ∧ z < (m : Int) := fun z hz => by
          have h1 := hb z hz
          have h2 : z ≠ (m : Int) := fun e => hm (e ▸ hz)
          omega
        obtain ⟨h1, h2⟩ := hb2 y (by simp)
        obtain ⟨a, rfl⟩ := Int.eq_ofNat_of_zero_le h1
        exact hy (pig2 m r hr hnr (fun z hz => hb2 z (by simp [hz])) a (by omega))

/-- Which lists can be inverted, and their inverses. -/
def invOk (L : List Int) : Bool := decide (L.length ≤ 301) && (List.range L.length).all fun x => decide ((x : Int) ∈ L)
def invV (L : List Int) : List Int := if invOk L = true then (List.range L.length).map fun x : Nat => (L.idxOf (x : Int) : Int) else []
theorem invOk_iff (L : List Int) : invOk L = true ↔ L.length ≤ 301 ∧ ∀ x : Nat, x < L.length → (x : Int) ∈ L := by
  unfold invOk
  simp
theorem invV_len (L : List Int) : (invV L).length ≤ 301 := by
  unfold invV
  split
  · rename_i h
    have := ((invOk_iff L).1 h).1
    simpa using this
  · simp
theorem invOk_pig {L : List Int} (h : invOk L = true) : L.Nodup ∧ ∀ y ∈ L, 0 ≤ y ∧ y < (L.length : Int) := pig _ L rfl ((invOk_iff L).1 h).2

theorem idxOf_at {L : List Int} {k : Nat} {y : Int} (hn : L.Nodup) (h : L[k]? = some y) : L.idxOf y = k := by
  obtain ⟨hk, rfl⟩ := List.getElem?_eq_some_iff.1 h
  exact List.Nodup.idxOf_getElem hn k hk
theorem mem_take_iff {L : List Int} {k : Nat} {y : Int} (hn : L.Nodup) (hy : y ∈ L) : y ∈ L.take k ↔ L.idxOf y < k := by
  constructor
  · intro h
    obtain ⟨j, hj, e⟩ := List.getElem_of_mem h
    rw [List.length_take] at hj
    have : L[j]? = some y := by
      rw [List.getElem_take] at e
      rw [List.getElem?_eq_getElem (by omega), e]
    rw [idxOf_at hn this]
    omega
  · intro h
    have hl : L.idxOf y < L.length := List.idxOf_lt_length_iff.2 hy
    have := List.getElem_idxOf hl
    rw [List.mem_iff_getElem]
    exact ⟨L.idxOf y, by rw [List.length_take]; omega, by rw [List.getElem_take]; exact this⟩

/-- The places, when the first k elements have been read. -/
def plK (L : List Int) (k : Nat) : List Int := (List.range L.length).map fun x : Nat => if (x : Int) ∈ L.take k then (L.idxOf (x : Int) : Int) else -1
theorem plK_zero (L : List Int) : plK L 0 = List.replicate L.length (-1) := by
  unfold plK
  simp [List.map_const']
theorem plK_len (L : List Int) (k : Nat) : (plK L k).length = L.length := by simp [plK]
theorem plK_get (L : List Int) (k x : Nat) (h : x < L.length) : (plK L k)[x]? = some (if (x : Int) ∈ L.take k then (L.idxOf (x : Int) : Int) else -1) := by
  unfold plK
  rw [List.getElem?_map, List.getElem?_range h]
  rfl
theorem plK_all {L : List Int} (h : invOk L = true) : plK L L.length = invV L := by
  unfold plK invV
  rw [if_pos h, List.take_of_length_le (Nat.le_refl _)]
  refine List.map_congr_left fun x hx => ?_
  rw [if_pos (((invOk_iff L).1 h).2 x (List.mem_range.1 hx))]
theorem plK_succ {L : List Int} {k x : Nat} (h : L[k]? = some (x : Int)) (hno : (x : Int) ∉ L.take k) : plK L (k + 1) = (plK L k).set x (k : Int) := by
  have hk : k < L.length := (List.getElem?_eq_some_iff.1 h).1
  refine List.ext_getElem? fun j => ?_
  by_cases hj : j < L.length
  · rw [plK_get L _ j hj, List.getElem?_set]
    have hm : (j : Int) ∈ L.take (k + 1) ↔ (j : Int) ∈ L.take k ∨ j = x := by
      rw [List.take_add_one, h, List.mem_append]
      simp only [Option.toList_some, List.mem_singleton]
      exact ⟨fun h => h.elim .inl fun h => .inr (by omega), fun h => h.elim .inl fun h => .inr (by omega)⟩
    by_cases e : x = j
    · subst e
      rw [if_pos (hm.2 (.inr rfl)), if_pos rfl, if_pos (by rw [plK_len]; exact hj)]
      have hi : L.idxOf (x : Int) = k := by
        have hx : L[k] = (x : Int) := by
          have := List.getElem?_eq_getElem hk
          rw [h] at this
          exact (Option.some.inj this).symm
        have e1 : L.idxOf (x : Int) = (L.take k ++ L.drop k).idxOf (x : Int) := by rw [List.take_append_drop]
        rw [e1, List.idxOf_append, if_neg hno, List.drop_eq_getElem_cons hk, hx, List.idxOf_cons_self, List.length_take]
        omega
      rw [hi]
    · rw [if_neg e, plK_get L k j hj]
      by_cases hjm : (j : Int) ∈ L.take k
      · rw [if_pos hjm, if_pos (hm.2 (.inl hjm))]
      · rw [if_neg hjm, if_neg (fun hc => (hm.1 hc).elim hjm fun e2 => e e2.symm)]
  · rw [List.getElem?_eq_none (by rw [plK_len]; omega), List.getElem?_eq_none (by rw [List.length_set, plK_len]; omega)]

end Go.Proofs.Ytkjelakdejbolaa
