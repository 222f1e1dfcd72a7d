/- Plain mathematics of variable-length numbers, and bytes as strings. -/
import Derived.Test.YtkjelakdejbolaaVarRd1
import Derived.Laws.BytesArg
namespace Go.Proofs.Ytkjelakdejbolaa
open Go.RowKit

/-- The number of seven bits a byte, the least first. -/
def val7 : List Nat → Nat
  | [] => 0
  | x :: r => x % 128 + 128 * val7 r
theorem val7_snoc (L : List Nat) (x : Nat) : val7 (L ++ [x]) = val7 L + x % 128 * 128 ^ L.length := by
  induction L with
  | nil => simp [val7]
  | cons y r ih =>
    simp only [List.cons_append, val7, ih, List.length_cons, Nat.pow_succ]
    rw [Nat.mul_add, Nat.mul_left_comm 128 (x % 128), Nat.mul_comm 128 (128 ^ r.length), Nat.add_assoc]
theorem val7_lt (L : List Nat) : val7 L < 128 ^ L.length := by
  induction L with
  | nil => simp [val7]
  | cons y r ih =>
    simp only [val7, List.length_cons, Nat.pow_succ]
    have := Nat.mod_lt y (show 0 < 128 by decide)
    omega
/-- Bytes that are not longer than necessary are the bytes of their number. -/
theorem varF_back : ∀ (L : List Nat) (f x : Nat), (∀ y ∈ L, 128 ≤ y ∧ y < 256) → x < 128 → (L = [] ∨ x ≠ 0) → L.length ≤ f → varF f (val7 (L ++ [x])) = L ++ [x]
  | [], f, x, _, hx, _, _ => by
    rw [List.nil_append, val7, val7, Nat.mul_zero, Nat.add_zero, Nat.mod_eq_of_lt hx]
    exact varF_small f x hx
  | y :: r, 0, x, _, _, _, hl => by simp at hl
  | y :: r, f + 1, x, hL, hx, h0, hl => by
    have hy := hL y (by simp)
    have hx0 : x ≠ 0 := by
      rcases h0 with h | h
      · cases h
      · exact h
    have ih := varF_back r f x (fun z hz => hL z (by simp [hz])) hx (.inr hx0) (by simpa using hl)
    have hp : 1 ≤ val7 (r ++ [x]) := by
      rw [val7_snoc, Nat.mod_eq_of_lt hx]
      have h1 : 1 ≤ 128 ^ r.length := Nat.pow_pos (by decide)
      have h2 := Nat.mul_le_mul (show 1 ≤ x by omega) h1
      omega
    rw [List.cons_append, val7, varF, if_neg (by omega)]
    rw [show (y % 128 + 128 * val7 (r ++ [x])) % 128 + 128 = y by omega, show (y % 128 + 128 * val7 (r ++ [x])) / 128 = val7 (r ++ [x]) by omega, ih]
/-- A small number has few bytes. -/
theorem varF_few : ∀ (f k u : Nat), u < 128 ^ (k + 1) → (varF f u).length ≤ k + 1
  | 0, k, u, _ => by simp [varF]
  | f + 1, 0, u, h => by
    rw [varF_small (f + 1) u (by simpa using h)]
    simp
  | f + 1, k + 1, u, h => by
    rw [varF]
    split
    · simp
    · have := varF_few f k (u / 128) (by rw [Nat.pow_succ] at h; omega)
      simp only [List.length_cons]
      omega

/-- What the comparison with VarOf says of a last byte. -/
theorem var_cmp (P : List Nat) (x u : Nat) (hP : ∀ y ∈ P, 128 ≤ y ∧ y < 256) (hx : x < 128) (hk : P.length ≤ 4) (hu : u = val7 (P ++ [x])) : varV (u : Int) = P ++ [x] ↔ ¬ ((x = 0 ∧ 0 < P.length) ∨ 4294967295 < u) := by
  unfold varV
  by_cases hb : 4294967295 < u
  · rw [if_neg (by omega)]
    constructor
    · intro h
      simp at h
    · intro h
      exact absurd (.inr hb) h
  · rw [if_pos (by omega), Int.toNat_natCast]
    constructor
    · intro h hh
      rcases hh with ⟨h0, h1⟩ | h1
      · subst h0
        obtain ⟨k, hk1⟩ : ∃ k, P.length = k + 1 := ⟨P.length - 1, by omega⟩
        have h2 : u < 128 ^ (k + 1) := by
          rw [hu, val7_snoc, Nat.zero_mod, Nat.zero_mul, Nat.add_zero, ← hk1]
          exact val7_lt P
        have h3 := varF_few 4 k u h2
        rw [h] at h3
        simp at h3
        omega
      · exact hb h1
    · intro h
      rw [hu]
      refine varF_back P 4 x hP hx ?_ hk
      by_cases hp : P = []
      · exact .inl hp
      · right
        intro h0
        exact h (.inl ⟨h0, List.length_pos_iff.2 hp⟩)

/-- A list of bytes as a string. -/
def bstr (L : List Nat) : ByteArray := strOfNums (L.map Int.ofNat)
theorem bstr_inj {L K : List Nat} (hL : ∀ x ∈ L, x < 2 ^ 8) (hK : ∀ x ∈ K, x < 2 ^ 8) (h : bstr L = bstr K) : L = K := by
  have h1 := congrArg (fun b => b.data.toList.map UInt8.toNat) h
  have key : ∀ M : List Nat, (∀ x ∈ M, x < 2 ^ 8) → (bstr M).data.toList.map UInt8.toNat = M := fun M hM => by
    unfold bstr
    rw [strOfNums_data, List.map_map, List.map_map]
    conv => rhs; rw [← List.map_id M]
    apply List.map_congr_left
    intro x hx
    have := hM x hx
    simp
    omega
  simp only [key L hL, key K hK] at h1
  exact h1

theorem conv_any {P : Program} (w : World) (src e dst : TypeId) (hs : P.underlying src = some (.slice e)) (he : P.underlying e = some (.int .u8)) (hd : P.underlying dst = some .string) (A : Option Addr) (c : Nat) (L : List Nat) (hA : A = none ∨ ∃ b o, A = some ⟨b, o, none⟩) (hL : Lies w B8 A L) :
    (convert src dst (.slice A L.length c)).run P w = .ok (.string (bstr L)) w := by
  rcases hA with rfl | ⟨b, o, rfl⟩
  · have e0 : L = [] := by
      cases L with
      | nil => rfl
      | cons x r =>
        obtain ⟨b, o, h, _⟩ := hL 0 x rfl
        cases h
    subst e0
    have e1 : bstr [] = ByteArray.empty := rfl
    rw [e1]
    exact run_convert_bytes_nil w src e hs he 0 c dst hd
  · refine run_convert_bytes_arg w src e hs he b o L.length c (L.map Int.ofNat) (by simp) ?_ dst hd
    intro i hi
    obtain ⟨b', o', x, h1, _, hx, hc⟩ := hL.at_ hi
    injection h1 with h1
    injection h1 with e1 e2
    subst e1 e2
    rw [hc]
    simp [List.getD, hx]

end Go.Proofs.Ytkjelakdejbolaa
