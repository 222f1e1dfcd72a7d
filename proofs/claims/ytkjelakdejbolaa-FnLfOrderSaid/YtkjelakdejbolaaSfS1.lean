/- SuffixRows of the specification: by insertion. -/
import Derived.Test.YtkjelakdejbolaaSf3
import Derived.Test.YtkjelakdejbolaaAppI
import Derived.IntWalk
namespace Go.Proofs.Ytkjelakdejbolaa
open Go.RowKit
set_option maxRecDepth 100000

/-- The last m suffixes, in ascending order. -/
def Part (t : List Nat) (m : Nat) (M : List Nat) : Prop := M.Perm (List.range' (t.length + 1 - m) m) ∧ M.Pairwise (fun i j => lcmp (t.drop i) (t.drop j) < 0)
theorem Part.zero (t : List Nat) : Part t 0 [] := ⟨by simp, List.Pairwise.nil⟩
theorem Part.len {t M : List Nat} {m : Nat} (h : Part t m M) : M.length = m := by rw [h.1.length_eq, List.length_range']
theorem Part.mem {t M : List Nat} {m : Nat} (h : Part t m M) (hm : m ≤ t.length + 1) {x : Nat} (hx : x ∈ M) : t.length + 1 - m ≤ x ∧ x ≤ t.length := by
  have := h.1.mem_iff.1 hx
  rw [List.mem_range'_1] at this
  omega
theorem Part.done {t M : List Nat} (h : Part t (t.length + 1) M) : M = sfx t := by
  refine IsSfx.eq ⟨?_, h.2⟩
  have := h.1
  rwa [Nat.sub_self, ← List.range_eq_range'] at this

/-- Where the suffix x goes. -/
def Lo (t M : List Nat) (x lo : Nat) : Prop := ∀ j y, M[j]? = some y → j < lo → lcmp (t.drop y) (t.drop x) < 0
def Hi (t M : List Nat) (x hi : Nat) : Prop := ∀ j y, M[j]? = some y → hi ≤ j → 0 ≤ lcmp (t.drop y) (t.drop x)
theorem part_le {t M : List Nat} {m : Nat} (h : Part t m M) {i j y z : Nat} (hi : M[i]? = some y) (hj : M[j]? = some z) (hij : i ≤ j) : lcmp (t.drop y) (t.drop z) ≤ 0 := by
  obtain ⟨h1, rfl⟩ := List.getElem?_eq_some_iff.1 hi
  obtain ⟨h2, rfl⟩ := List.getElem?_eq_some_iff.1 hj
  by_cases e : i = j
  · subst e
    rw [lcmp_self]; omega
  · have := List.pairwise_iff_getElem.1 h.2 i j h1 h2 (by omega)
    omega
theorem Lo.mid {t M : List Nat} {m x k y : Nat} (h : Part t m M) (hk : M[k]? = some y) (hc : lcmp (t.drop y) (t.drop x) < 0) : Lo t M x (k + 1) := fun j z hz hj =>
  lcmp_le_lt (part_le h hz hk (by omega)) hc
theorem Hi.mid {t M : List Nat} {m x k y : Nat} (h : Part t m M) (hk : M[k]? = some y) (hc : ¬ lcmp (t.drop y) (t.drop x) < 0) : Hi t M x k := fun j z hz hj => by
  have h1 := part_le h hk hz hj
  refine Classical.byContradiction fun hn => hc (lcmp_le_lt h1 (by omega))

theorem Part.insert {t M : List Nat} {m x lo : Nat} (h : Part t m M) (hm : x + m = t.length) (hl : lo ≤ m) (h1 : Lo t M x lo) (h2 : Hi t M x lo) : Part t (m + 1) (M.take lo ++ x :: M.drop lo) := by
  have hlen := h.len
  constructor
  · refine List.perm_middle.trans ?_
    rw [List.take_append_drop, show t.length + 1 - (m + 1) = x by omega, List.range'_succ, show x + 1 = t.length + 1 - m by omega]
    exact h.1.cons x
  · have hsp := h.2
    rw [← List.take_append_drop lo M] at hsp
    rw [List.pairwise_append] at hsp ⊢
    refine ⟨hsp.1, List.pairwise_cons.2 ⟨fun y hy => ?_, hsp.2.1⟩, fun a ha b hb => ?_⟩
    · obtain ⟨j, hj, rfl⟩ := List.getElem_of_mem hy
      rw [List.getElem_drop]
      rw [List.length_drop] at hj
      have hg : M[lo + j]? = some M[lo + j] := List.getElem?_eq_getElem (by omega)
      have := h2 _ _ hg (by omega)
      rw [lcmp_swap]
      have hne : lcmp (t.drop M[lo + j]) (t.drop x) ≠ 0 := fun e => by
        have hb := h.mem (by omega) (List.mem_of_getElem? hg)
        have := drop_inj (by omega) (by omega) (lcmp_eq e)
        omega
      omega
    · have ha2 : lcmp (t.drop a) (t.drop x) < 0 := by
        obtain ⟨j, hj, rfl⟩ := List.getElem_of_mem ha
        rw [List.length_take] at hj
        rw [List.getElem_take]
        exact h1 j _ (List.getElem?_eq_getElem (by omega)) (by omega)
      rcases List.mem_cons.1 hb with rfl | hb
      · exact ha2
      · exact hsp.2.2 a ha b hb

/-- What SuffixRows is to return. -/
def sfxV (L : List Nat) : List Int := if L.length ≤ 300 then (sfx L).map Int.ofNat else []
theorem sfxV_len (L : List Nat) : (sfxV L).length ≤ 301 := by
  unfold sfxV
  split
  · rw [List.length_map, sfx_len]; omega
  · simp

theorem ofNat_at {M : List Nat} {k y : Nat} (h : M[k]? = some y) : (M.map Int.ofNat)[k]? = some (y : Int) := by rw [List.getElem?_map, h]; rfl

end Go.Proofs.Ytkjelakdejbolaa
