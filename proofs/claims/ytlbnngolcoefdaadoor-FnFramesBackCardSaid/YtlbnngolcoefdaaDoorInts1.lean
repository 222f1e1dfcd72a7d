import Derived.Test.YtlbnngolcoefdaaDoorFrMath
import Derived.Test.YtlbnngolcoefdaaDoorProg
import Derived.Test.YtlbnngolcoefdaaDoorMem
/- A frame inside a list of bytes: its head, its checksum, and what FrameRead is to return. -/
namespace Go.Proofs.YtlbnngolcoefdaaDoor
open Go.RowKit

/-- What FrameRead finds at a. -/
def rdV (D : List Nat) (a : Int) : Option (Nat × List Nat × Nat) := if 0 ≤ a ∧ a < D.length then frP (D.drop a.toNat) else none
/-- Where the body of the frame at a begins and ends. -/
def hdV (D : List Nat) (a : Int) : Option (Nat × Nat) :=
  if 0 ≤ a ∧ a + 2 < D.length ∧ D[a.toNat]? = some 90 then
    match rdF 5 0 0 (D.drop (a.toNat + 2)) with
    | some (n, j) => if n ≤ 8000 ∧ a.toNat + 2 + j + n ≤ D.length then some (a.toNat + 2 + j, a.toNat + 2 + j + n) else none
    | none => none
  else none

theorem rdF_nil : ∀ f k n, rdF f k n [] = none
  | 0, _, _ => rfl
  | _ + 1, _, _ => rfl
theorem frP_short {C : List Nat} (h : C.length ≤ 2) : frP C = none := by
  match C, h with
  | [], _ => rfl
  | [_], _ => rfl
  | [x, k], _ =>
    unfold frP
    simp only [rdF_nil]
    split <;> rfl
  | _ :: _ :: _ :: _, h => simp at h

theorem hdV_some {D : List Nat} {a : Nat} {s t : Nat} (hD : ∀ x ∈ D, x < 2 ^ 8) (h : hdV D a = some (s, t)) :
    ∃ n j k, s = a + 2 + j ∧ t = s + n ∧ n ≤ 8000 ∧ t ≤ D.length ∧ 1 ≤ j ∧ j ≤ 5 ∧ D[a]? = some 90 ∧ D[a + 1]? = some k ∧ k < 2 ^ 8 ∧ rdF 5 0 0 (D.drop (a + 2)) = some (n, j) ∧ D.drop a = 90 :: k :: D.drop (a + 2) := by
  unfold hdV at h
  split at h
  · rename_i hc
    obtain ⟨_, h2, h3⟩ := hc
    rw [Int.toNat_natCast] at h3 h
    split at h
    · rename_i n j hr
      split at h
      · rename_i hn
        injection h with h
        injection h with e1 e2
        obtain ⟨_, hj1, hj2, hj3, _⟩ := rd_bytes (fun x hx => hD x (List.mem_of_mem_drop hx)) hr
        have hl1 : a + 1 < D.length := by omega
        have hl : a < D.length := by omega
        refine ⟨n, j, D[a + 1], e1.symm, by omega, hn.1, by omega, hj2, hj3, h3, List.getElem?_eq_getElem hl1, hD _ (List.getElem_mem hl1), hr, ?_⟩
        rw [List.drop_eq_getElem_cons hl, List.drop_eq_getElem_cons hl1]
        rw [List.getElem?_eq_getElem hl] at h3
        injection h3 with h3
        rw [h3]
      · cases h
    · cases h
  · cases h
theorem rdV_none {D : List Nat} {a : Int} (h : hdV D a = none) : rdV D a = none := by
  unfold rdV
  split
  · rename_i ha
    obtain ⟨m, rfl⟩ := Int.eq_ofNat_of_zero_le ha.1
    rw [Int.toNat_natCast]
    unfold hdV at h
    rw [Int.toNat_natCast] at h
    by_cases h2 : m + 2 < D.length
    · have e : D.drop m = D[m] :: D[m + 1] :: D.drop (m + 2) := by rw [List.drop_eq_getElem_cons (by omega), List.drop_eq_getElem_cons (by omega)]
      rw [e]
      unfold frP
      simp only
      split
      · rename_i h90
        rw [if_pos ⟨by omega, by omega, by rw [List.getElem?_eq_getElem (by omega), h90]⟩] at h
        split
        · rename_i n j hr
          rw [hr] at h
          simp only at h
          rw [if_neg]
          rintro ⟨q1, q2, _⟩
          rw [List.length_drop] at q2
          rw [if_pos ⟨q1, by omega⟩] at h
          cases h
        · rfl
      · rfl
    · exact frP_short (by rw [List.length_drop]; omega)
  · rfl
theorem rdV_some {D : List Nat} {a : Nat} {s t k : Nat} (hD : ∀ x ∈ D, x < 2 ^ 8) (h : hdV D a = some (s, t)) (hk : D[a + 1]? = some k) :
    rdV D a = if (D.drop t).take 4 = four (crcL ((D.drop a).take (t - a))) then some (k, (D.drop s).take (t - s), t + 4 - a) else none := by
  obtain ⟨n, j, k', rfl, rfl, h1, h2, h3, h4, h5, h6, h7, h8, h9⟩ := hdV_some hD h
  rw [hk] at h6
  injection h6 with h6
  subst h6
  unfold rdV
  rw [if_pos ⟨by omega, by omega⟩, Int.toNat_natCast, h9]
  unfold frP
  simp only [if_true]
  rw [h8]
  simp only
  have e1 : (D.drop (a + 2)).drop (j + n) = D.drop (a + 2 + j + n) := by rw [List.drop_drop]; congr 1; omega
  have e2 : (D.drop (a + 2)).drop j = D.drop (a + 2 + j) := by rw [List.drop_drop]
  have e3 : (90 :: k :: D.drop (a + 2)).take (a + 2 + j + n - a) = 90 :: k :: (D.drop (a + 2)).take (j + n) := by
    rw [show a + 2 + j + n - a = (j + n) + 1 + 1 by omega, List.take_succ_cons, List.take_succ_cons]
  rw [e1, e2, e3, show a + 2 + j + n - (a + 2 + j) = n by omega, show a + 2 + j + n + 4 - a = j + n + 6 by omega]
  by_cases hc : (D.drop (a + 2 + j + n)).take 4 = four (crcL (90 :: k :: (D.drop (a + 2)).take (j + n)))
  · rw [if_pos ⟨h1, by rw [List.length_drop]; omega, hc⟩, if_pos hc]
  · rw [if_neg (fun h => hc h.2.2), if_neg hc]

/-- How the frame that is found is compared by the specification. -/
theorem rdV_spec {D : List Nat} {a : Nat} {s t k : Nat} (hD : ∀ x ∈ D, x < 2 ^ 8) (h : hdV D a = some (s, t)) (hk : D[a + 1]? = some k) :
    (frB k ((D.drop s).take (t - s))).length = t + 4 - a ∧ ((D.drop a).take (t + 4 - a) = frB k ((D.drop s).take (t - s)) ↔ (D.drop t).take 4 = four (crcL ((D.drop a).take (t - a)))) := by
  obtain ⟨n, j, k', rfl, rfl, h1, h2, h3, h4, h5, h6, h7, h8, h9⟩ := hdV_some hD h
  rw [hk] at h6
  injection h6 with h6
  subst h6
  have hR : ∀ x ∈ D.drop (a + 2), x < 2 ^ 8 := fun x hx => hD x (List.mem_of_mem_drop hx)
  have hl : j + n ≤ (D.drop (a + 2)).length := by rw [List.length_drop]; omega
  have e1 : (D.drop (a + 2)).drop (j + n) = D.drop (a + 2 + j + n) := by rw [List.drop_drop]; congr 1; omega
  have e2 : (D.drop (a + 2)).drop j = D.drop (a + 2 + j) := by rw [List.drop_drop]
  have e3 : (D.drop a).take (a + 2 + j + n - a) = 90 :: k :: (D.drop (a + 2)).take (j + n) := by
    rw [h9, show a + 2 + j + n - a = (j + n) + 1 + 1 by omega, List.take_succ_cons, List.take_succ_cons]
  have e4 : (D.drop a).take (a + 2 + j + n + 4 - a) = 90 :: k :: (D.drop (a + 2)).take (j + n + 4) := by
    rw [h9, show a + 2 + j + n + 4 - a = (j + n + 4) + 1 + 1 by omega, List.take_succ_cons, List.take_succ_cons]
  have hb := frB_take (k := k) hR h8 hl
  have hd := frD_take (k := k) hR h8 hl
  rw [e2] at hb hd
  rw [e1] at hb
  rw [e3, e4, show a + 2 + j + n - (a + 2 + j) = n by omega]
  refine ⟨?_, ?_⟩
  · unfold frB
    rw [List.length_append, four_len, hd]
    simp only [List.length_cons, List.length_take]
    omega
  · rw [← hb]
    exact eq_comm

end Go.Proofs.YtlbnngolcoefdaaDoor

/- Contracts of the laws' own comparisons, marks and tests of lists of numbers. -/
namespace Go.Proofs.YtlbnngolcoefdaaDoor
open Go.RowKit
set_option maxRecDepth 100000

/-- What a list holds after m rounds of being marked from k on. -/
def marked (f : Int → Value) (k : Int) (xs : List Value) (m : Nat) : List Value := (List.range m).map (fun (j : Nat) => f (k + j)) ++ xs.drop m
theorem marked_zero (f : Int → Value) (k : Int) (xs : List Value) : marked f k xs 0 = xs := by simp [marked]
theorem marked_all (f : Int → Value) (k : Int) (xs : List Value) (n : Nat) (h : xs.length = n) : marked f k xs n = (List.range n).map (fun (j : Nat) => f (k + j)) := by
  subst h; simp [marked]
theorem marked_succ (f : Int → Value) (k : Int) (xs : List Value) (m : Nat) (h : m < xs.length) : marked f k xs (m + 1) = (marked f k xs m).set m (f (k + m)) := by
  unfold marked
  rw [List.set_append_right _ _ (by simp), List.length_map, List.length_range, Nat.sub_self, List.range_succ, List.map_append, List.drop_eq_getElem_cons h, List.set_cons_zero]
  simp
theorem marked_get (f : Int → Value) (k : Int) (xs : List Value) (m : Nat) (h : m < xs.length) : ∃ u, (marked f k xs m)[m]? = some u := by
  refine ⟨xs[m], ?_⟩
  unfold marked
  rw [List.getElem?_append_right (by simp), List.length_map, List.length_range, Nat.sub_self, List.drop_eq_getElem_cons h]
  rfl

end Go.Proofs.YtlbnngolcoefdaaDoor
