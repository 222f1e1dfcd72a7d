import Derived.Test.YtkjelakdejbolaaCrcMath
import Derived.Test.YtkjelakdejbolaaVarRd2
import Derived.Test.YtkjelakdejbolaaVarBk1
import Derived.Test.YtkjelakdejbolaaProg
/- Frames as mathematics: their bytes, how they are read, and that one changed byte is told. -/
namespace Go.Proofs.Ytkjelakdejbolaa
open Go.RowKit

/-- Which frames are valid. -/
def okF (K : Int) (n : Nat) : Bool := decide (0 ≤ K ∧ K ≤ 255 ∧ n ≤ 8000)
/-- The bytes of a frame ahead of its checksum. -/
def frD (k : Nat) (L : List Nat) : List Nat := 90 :: k :: (varV (L.length : Int) ++ L)
def frB (k : Nat) (L : List Nat) : List Nat := frD k L ++ four (crcL (frD k L))
/-- What FrameOf is to return. -/
def frV (K : Int) (L : List Nat) : List Nat := if okF K L.length = true then frB K.toNat L else []

theorem rd_var : ∀ (f k m : Nat) (R : List Nat) (n j : Nat), rdF f k m R = some (n, j) →
    ∃ (L : List Nat) (x : Nat) (rest : List Nat), R = L ++ x :: rest ∧ (∀ y ∈ L, 128 ≤ y) ∧ x < 128 ∧ j = k + L.length + 1 ∧ L.length + 1 ≤ f ∧ n = m + val7 (L ++ [x]) * 128 ^ k ∧ ¬ (x = 0 ∧ 0 < k + L.length) ∧ n ≤ 4294967295
  | 0, k, m, R, n, j, h => by simp [rdF] at h
  | f + 1, k, m, [], n, j, h => by simp [rdF] at h
  | f + 1, k, m, y :: R, n, j, h => by
    rw [rdF] at h
    by_cases hy : 128 ≤ y
    · rw [if_pos hy] at h
      obtain ⟨L, x, rest, rfl, h1, h2, h3, h4, h5, h6, h7⟩ := rd_var f (k + 1) _ R n j h
      refine ⟨y :: L, x, rest, rfl, ?_, h2, by simp only [List.length_cons]; omega, by simp only [List.length_cons]; omega, ?_, fun h => h6 ⟨h.1, by omega⟩, h7⟩
      · intro z hz
        rcases List.mem_cons.1 hz with rfl | hz
        · exact hy
        · exact h1 z hz
      · rw [h5, List.cons_append, val7, Nat.add_mul, Nat.pow_succ, Nat.mul_comm (128 ^ k) 128, ← Nat.mul_assoc, Nat.mul_comm _ 128, Nat.add_assoc]
    · rw [if_neg hy] at h
      split at h
      · cases h
      · rename_i hc
        injection h with h
        injection h with h1 h2
        refine ⟨[], y, R, rfl, by simp, by omega, by simp; omega, by simp, by simp [val7]; omega, by simpa using fun h => hc (.inl h), by omega⟩
/-- What is read is what VarOf writes. -/
theorem rd_bytes {R : List Nat} {n j : Nat} (hR : ∀ x ∈ R, x < 2 ^ 8) (h : rdF 5 0 0 R = some (n, j)) : varV (n : Int) = R.take j ∧ j ≤ R.length ∧ 1 ≤ j ∧ j ≤ 5 ∧ n ≤ 4294967295 := by
  obtain ⟨L, x, rest, rfl, h1, h2, h3, h4, h5, h6, h7⟩ := rd_var 5 0 0 R n j h
  have e : n = val7 (L ++ [x]) := by simpa using h5
  have hv := (var_cmp L x n (fun y hy => ⟨h1 y hy, by have := hR y (by simp [hy]); omega⟩) h2 (by omega) e).2 (by
    rintro (hh | hh)
    · exact h6 ⟨hh.1, by omega⟩
    · omega)
  refine ⟨?_, by simp; omega, by omega, by omega, h7⟩
  rw [hv, h3, show L ++ x :: rest = (L ++ [x]) ++ rest by simp]
  rw [List.take_append_of_le_length (by simp), List.take_of_length_le (by simp)]
theorem varV_nat (n : Nat) (h : n ≤ 4294967295) : varV (n : Int) = varF 4 n := by
  unfold varV
  rw [if_pos (by omega), Int.toNat_natCast]
theorem rd_varV (n : Nat) (rest : List Nat) (h : n ≤ 4294967295) : rdF 5 0 0 (varV (n : Int) ++ rest) = some (n, (varV (n : Int)).length) := by
  rw [varV_nat n h]
  have := rd_back 4 0 0 n rest (by omega) (.inl rfl) (by omega)
  simpa using this
theorem varV_mono {m n : Nat} (hm : m ≤ n) (hn : n ≤ 4294967295) : (varV (m : Int)).length ≤ (varV (n : Int)).length := by
  rw [varV_nat m (by omega), varV_nat n hn]
  exact varF_mono 4 m n hm

/-- The frame at the front of a list, and how many bytes it has. -/
def frP (C : List Nat) : Option (Nat × List Nat × Nat) :=
  match C with
  | x :: k :: R =>
    if x = 90 then
      match rdF 5 0 0 R with
      | some (n, j) => if n ≤ 8000 ∧ j + n ≤ R.length ∧ (R.drop (j + n)).take 4 = four (crcL (90 :: k :: R.take (j + n))) then some (k, (R.drop j).take n, j + n + 6) else none
      | none => none
    else none
  | _ => none

theorem four_len (n : Nat) : (four n).length = 4 := rfl
theorem frD_take {k : Nat} {R : List Nat} {n j : Nat} (hR : ∀ x ∈ R, x < 2 ^ 8) (h : rdF 5 0 0 R = some (n, j)) (hl : j + n ≤ R.length) : frD k ((R.drop j).take n) = 90 :: k :: R.take (j + n) := by
  obtain ⟨hv, _⟩ := rd_bytes hR h
  have e : ((R.drop j).take n).length = n := by rw [List.length_take, List.length_drop]; omega
  unfold frD
  rw [e, hv, List.take_add]
/-- What the specification compares is what the program compares. -/
theorem frB_take {k : Nat} {R : List Nat} {n j : Nat} (hR : ∀ x ∈ R, x < 2 ^ 8) (h : rdF 5 0 0 R = some (n, j)) (hl : j + n ≤ R.length) :
    frB k ((R.drop j).take n) = 90 :: k :: R.take (j + n + 4) ↔ (R.drop (j + n)).take 4 = four (crcL (90 :: k :: R.take (j + n))) := by
  unfold frB
  rw [frD_take hR h hl, List.take_add (i := j + n) (j := 4)]
  constructor
  · intro h
    simp only [List.cons_append, List.cons.injEq, true_and] at h
    exact (List.append_cancel_left h).symm
  · intro h
    rw [h]
    rfl
theorem frB_len (k : Nat) (L : List Nat) : (frB k L).length = (varV (L.length : Int)).length + L.length + 6 := by
  unfold frB frD
  simp [four_len]
  omega
theorem frP_some {C : List Nat} (hC : ∀ x ∈ C, x < 2 ^ 8) {k : Nat} {B : List Nat} {l : Nat} (h : frP C = some (k, B, l)) : C.take l = frB k B ∧ l ≤ C.length ∧ B.length ≤ 8000 ∧ k < 2 ^ 8 ∧ 7 ≤ l ∧ (∀ x ∈ B, x < 2 ^ 8) := by
  unfold frP at h
  match C, hC with
  | [], _ => simp at h
  | [x], _ => simp at h
  | x :: k' :: R, hC =>
    simp only at h
    by_cases hx : x = 90
    · rw [if_pos hx] at h
      subst hx
      have hR : ∀ x ∈ R, x < 2 ^ 8 := fun y hy => hC y (by simp [hy])
      cases hr : rdF 5 0 0 R with
      | none => rw [hr] at h; simp at h
      | some p =>
        obtain ⟨n, j⟩ := p
        rw [hr] at h
        simp only at h
        split at h
        · rename_i hc
          obtain ⟨h1, h2, h3⟩ := hc
          injection h with h
          injection h with e1 h
          injection h with e2 e3
          subst e1 e2 e3
          have h4 := (frB_take (k := k') hR hr h2).2 h3
          have h5 := congrArg List.length h3
          rw [four_len, List.length_take, List.length_drop] at h5
          obtain ⟨_, _, hj, _, _⟩ := rd_bytes hR hr
          refine ⟨by rw [h4]; rfl, by simp only [List.length_cons]; omega, by rw [List.length_take]; omega, hC k' (by simp), by omega, ?_⟩
          intro y hy
          exact hR y (List.mem_of_mem_drop (List.mem_of_mem_take hy))
        · cases h
    · rw [if_neg hx] at h
      cases h
/-- A frame is read again, whatever follows. -/
theorem frP_back (k : Nat) (L rest : List Nat) (hL : L.length ≤ 8000) : frP (frB k L ++ rest) = some (k, L, (frB k L).length) := by
  have hlen := frB_len k L
  have e : frB k L ++ rest = 90 :: k :: (varV (L.length : Int) ++ (L ++ (four (crcL (frD k L)) ++ rest))) := by
    unfold frB frD
    simp
  have hr := rd_varV L.length (L ++ (four (crcL (frD k L)) ++ rest)) (by omega)
  rw [e]
  unfold frP
  simp only [if_true]
  rw [hr]
  simp only
  have e1 : List.take ((varV (L.length : Int)).length + L.length) (varV (L.length : Int) ++ (L ++ (four (crcL (frD k L)) ++ rest))) = varV (L.length : Int) ++ L := by
    rw [← List.append_assoc, List.take_append_of_le_length (by simp), List.take_of_length_le (by simp)]
  have e2 : List.drop ((varV (L.length : Int)).length + L.length) (varV (L.length : Int) ++ (L ++ (four (crcL (frD k L)) ++ rest))) = four (crcL (frD k L)) ++ rest := by
    rw [← List.append_assoc, List.drop_append_of_le_length (by simp), List.drop_of_length_le (by simp), List.nil_append]
  have e3 : (List.drop (varV (L.length : Int)).length (varV (L.length : Int) ++ (L ++ (four (crcL (frD k L)) ++ rest)))).take L.length = L := by
    rw [List.drop_append_of_le_length (by simp), List.drop_of_length_le (by simp), List.nil_append, List.take_append_of_le_length (by simp), List.take_of_length_le (by simp)]
  rw [e1, e2, e3]
  rw [if_pos ⟨hL, by simp, by rw [List.take_append_of_le_length (Nat.le_refl 4), List.take_of_length_le (Nat.le_refl 4)]; rfl⟩]
  rw [hlen]
theorem frB_byte {k : Nat} {L : List Nat} (hk : k < 2 ^ 8) (hL : ∀ x ∈ L, x < 2 ^ 8) (hv : ∀ x ∈ varV (L.length : Int), x < 2 ^ 8) : ∀ x ∈ frB k L, x < 2 ^ 8 := by
  intro x hx
  unfold frB frD at hx
  simp only [List.mem_append, List.mem_cons] at hx
  rcases hx with (rfl | rfl | hx | hx) | hx
  · decide
  · exact hk
  · exact hv x hx
  · exact hL x hx
  · exact four_byte _ x hx

/-- Two lists of one length that differ in one place. -/
theorem one_place {A B : List Nat} {i y : Nat} (hi : i < A.length) (h : B = A.set i y) : ∃ P Q x, A = P ++ x :: Q ∧ B = P ++ y :: Q ∧ A[i]? = some x ∧ P.length = i := by
  refine ⟨A.take i, A.drop (i + 1), A[i], ?_, ?_, List.getElem?_eq_getElem hi, by rw [List.length_take]; omega⟩
  · rw [← List.drop_eq_getElem_cons hi, List.take_append_drop]
  · rw [h, List.set_eq_take_append_cons_drop, if_pos hi]
/-- A frame with one byte changed is no frame of the same length. -/
theorem frame_told {k : Nat} {L : List Nat} {i x y : Nat} (hk : k < 2 ^ 8) (hL : ∀ x ∈ L, x < 2 ^ 8) (hv : ∀ x ∈ varV (L.length : Int), x < 2 ^ 8) (hl : L.length ≤ 8000) (hx : (frB k L)[i]? = some x) (hxy : y ≠ x) (hy : y < 2 ^ 8)
    {k' : Nat} {B : List Nat} {l : Nat} (h : frP ((frB k L).set i y) = some (k', B, l)) : l ≠ (frB k L).length := by
  intro e
  have hbytes := frB_byte hk hL hv
  have hb' : ∀ z ∈ (frB k L).set i y, z < 2 ^ 8 := fun z hz => by
    rcases List.mem_or_eq_of_mem_set hz with hz | rfl
    · exact hbytes z hz
    · exact hy
  obtain ⟨h1, h2, h3, h4, h5, h6⟩ := frP_some hb' h
  rw [List.take_of_length_le (by rw [List.length_set]; omega)] at h1
  have hlen : (frB k' B).length = (frB k L).length := by rw [← h1, List.length_set]
  have hn : B.length = L.length := by
    rw [frB_len, frB_len] at hlen
    rcases Nat.lt_trichotomy B.length L.length with h | h | h
    · have := varV_mono (Nat.le_of_lt h) (by omega); omega
    · exact h
    · have := varV_mono (Nat.le_of_lt h) (by omega); omega
  have hi : i < (frB k L).length := (List.getElem?_eq_some_iff.1 hx).1
  have hD : (frD k' B).length = (frD k L).length := by unfold frD; simp [hn]
  have ha : (frB k L).set i y = frD k' B ++ four (crcL (frD k' B)) := h1
  have hb : frB k L = frD k L ++ four (crcL (frD k L)) := rfl
  have hdb : ∀ z ∈ frD k L, z < 2 ^ 8 := fun z hz => hbytes z (by rw [hb]; exact List.mem_append_left _ hz)
  have hdb' : ∀ z ∈ frD k' B, z < 2 ^ 8 := fun z hz => hb' z (by rw [ha]; exact List.mem_append_left _ hz)
  by_cases hp : i < (frD k L).length
  · rw [hb, List.set_append_left _ _ hp] at ha
    have hs := List.append_inj ha (by rw [List.length_set, hD])
    have hc := four_inj (crcL_lt _ hdb) (crcL_lt _ hdb') hs.2
    obtain ⟨P, Q, z, q1, q2, q3, q4⟩ := one_place hp hs.1.symm
    have hxz : x = z := by
      rw [hb, List.getElem?_append_left hp, q3] at hx
      injection hx with hx
      exact hx.symm
    subst hxz
    rw [q1, q2] at hc
    rw [q1] at hdb
    exact hxy (crcL_one P Q x y (fun z hz => hdb z (by simp [hz])) (fun z hz => hdb z (by simp [hz])) (hdb x (by simp)) hy hc).symm
  · rw [hb, List.set_append_right _ _ (by omega)] at ha
    have hs := List.append_inj ha (by rw [hD])
    rw [← hs.1] at hs
    have hq : (four (crcL (frD k L)))[i - (frD k L).length]? = some x := by rw [hb, List.getElem?_append_right (by omega)] at hx; exact hx
    have hq2 : i - (frD k L).length < (four (crcL (frD k L))).length := (List.getElem?_eq_some_iff.1 hq).1
    have := congrArg (fun M => M[i - (frD k L).length]?) hs.2
    simp only [List.getElem?_set, if_true, if_pos hq2] at this
    rw [hq] at this
    injection this with this
    exact hxy this

end Go.Proofs.Ytkjelakdejbolaa

/- FrameOk, the program's and the specification's. -/
namespace Go.Proofs.Ytkjelakdejbolaa
open Go.RowKit
set_option maxRecDepth 100000

end Go.Proofs.Ytkjelakdejbolaa
