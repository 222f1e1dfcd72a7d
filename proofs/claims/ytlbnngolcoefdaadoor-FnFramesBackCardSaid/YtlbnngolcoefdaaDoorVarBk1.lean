import Derived.Test.YtlbnngolcoefdaaDoorVarRd1
import Derived.Laws.BytesArg
import Derived.Test.YtlbnngolcoefdaaDoorWid2
/- Plain mathematics of variable-length numbers, and bytes as strings. -/
namespace Go.Proofs.YtlbnngolcoefdaaDoor
open Go.RowKit

/-- The number of seven bits a byte, the least first. -/
def val7 : List Nat → Nat
  | [] => 0
  | x :: r => x % 128 + 128 * val7 r
theorem val7_snoc (L : List Nat) (x : Nat) : val7 (L ++ [x]) = val7 L + x % 128 * 128 ^ L.length := by
  induction L with
  | nil => simp [val7]
  | cons y r ih =>
    simp only [List.cons_append, val7, ih, List.length_cons, Nat.pow_succ]
    rw [Nat.mul_add, Nat.mul_left_comm 128 (x % 128), Nat.mul_comm 128 (128 ^ r.length), Nat.add_assoc]
theorem val7_lt (L : List Nat) : val7 L < 128 ^ L.length := by
  induction L with
  | nil => simp [val7]
  | cons y r ih =>
    simp only [val7, List.length_cons, Nat.pow_succ]
    have := Nat.mod_lt y (show 0 < 128 by decide)
    omega
/-- Bytes that are not longer than necessary are the bytes of their number. -/
theorem varF_back : ∀ (L : List Nat) (f x : Nat), (∀ y ∈ L, 128 ≤ y ∧ y < 256) → x < 128 → (L = [] ∨ x ≠ 0) → L.length ≤ f → varF f (val7 (L ++ [x])) = L ++ [x]
  | [], f, x, _, hx, _, _ => by
    rw [List.nil_append, val7, val7, Nat.mul_zero, Nat.add_zero, Nat.mod_eq_of_lt hx]
    exact varF_small f x hx
  | y :: r, 0, x, _, _, _, hl => by simp at hl
  | y :: r, f + 1, x, hL, hx, h0, hl => by
    have hy := hL y (by simp)
    have hx0 : x ≠ 0 := by
      rcases h0 with h | h
      · cases h
      · exact h
    have ih := varF_back r f x (fun z hz => hL z (by simp [hz])) hx (.inr hx0) (by simpa using hl)
    have hp : 1 ≤ val7 (r ++ [x]) := by
      rw [val7_snoc, Nat.mod_eq_of_lt hx]
      have h1 : 1 ≤ 128 ^ r.length := Nat.pow_pos (by decide)
      have h2 := Nat.mul_le_mul (show 1 ≤ x by omega) h1
      omega
    rw [List.cons_append, val7, varF, if_neg (by omega)]
    rw [show (y % 128 + 128 * val7 (r ++ [x])) % 128 + 128 = y by omega, show (y % 128 + 128 * val7 (r ++ [x])) / 128 = val7 (r ++ [x]) by omega, ih]
/-- A small number has few bytes. -/
theorem varF_few : ∀ (f k u : Nat), u < 128 ^ (k + 1) → (varF f u).length ≤ k + 1
  | 0, k, u, _ => by simp [varF]
  | f + 1, 0, u, h => by
    rw [varF_small (f + 1) u (by simpa using h)]
    simp
  | f + 1, k + 1, u, h => by
    rw [varF]
    split
    · simp
    · have := varF_few f k (u / 128) (by rw [Nat.pow_succ] at h; omega)
      simp only [List.length_cons]
      omega

/-- What the comparison with VarOf says of a last byte. -/
theorem var_cmp (P : List Nat) (x u : Nat) (hP : ∀ y ∈ P, 128 ≤ y ∧ y < 256) (hx : x < 128) (hk : P.length ≤ 4) (hu : u = val7 (P ++ [x])) : varV (u : Int) = P ++ [x] ↔ ¬ ((x = 0 ∧ 0 < P.length) ∨ 4294967295 < u) := by
  unfold varV
  by_cases hb : 4294967295 < u
  · rw [if_neg (by omega)]
    constructor
    · intro h
      simp at h
    · intro h
      exact absurd (.inr hb) h
  · rw [if_pos (by omega), Int.toNat_natCast]
    constructor
    · intro h hh
      rcases hh with ⟨h0, h1⟩ | h1
      · subst h0
        obtain ⟨k, hk1⟩ : ∃ k, P.length = k + 1 := ⟨P.length - 1, by omega⟩
        have h2 : u < 128 ^ (k + 1) := by
          rw [hu, val7_snoc, Nat.zero_mod, Nat.zero_mul, Nat.add_zero, ← hk1]
          exact val7_lt P
        have h3 := varF_few 4 k u h2
        rw [h] at h3
        simp at h3
        omega
      · exact hb h1
    · intro h
      rw [hu]
      refine varF_back P 4 x hP hx ?_ hk
      by_cases hp : P = []
      · exact .inl hp
      · right
        intro h0
        exact h (.inl ⟨h0, List.length_pos_iff.2 hp⟩)

/-- A list of bytes as a string. -/
def bstr (L : List Nat) : ByteArray := strOfNums (L.map Int.ofNat)
theorem bstr_inj {L K : List Nat} (hL : ∀ x ∈ L, x < 2 ^ 8) (hK : ∀ x ∈ K, x < 2 ^ 8) (h : bstr L = bstr K) : L = K := by
  have h1 := congrArg (fun b => b.data.toList.map UInt8.toNat) h
  have key : ∀ M : List Nat, (∀ x ∈ M, x < 2 ^ 8) → (bstr M).data.toList.map UInt8.toNat = M := fun M hM => by
    unfold bstr
    rw [strOfNums_data, List.map_map, List.map_map]
    conv => rhs; rw [← List.map_id M]
    apply List.map_congr_left
    intro x hx
    have := hM x hx
    simp
    omega
  simp only [key L hL, key K hK] at h1
  exact h1

theorem conv_any {P : Program} (w : World) (src e dst : TypeId) (hs : P.underlying src = some (.slice e)) (he : P.underlying e = some (.int .u8)) (hd : P.underlying dst = some .string) (A : Option Addr) (c : Nat) (L : List Nat) (hA : A = none ∨ ∃ b o, A = some ⟨b, o, none⟩) (hL : Lies w B8 A L) :
    (convert src dst (.slice A L.length c)).run P w = .ok (.string (bstr L)) w := by
  rcases hA with rfl | ⟨b, o, rfl⟩
  · have e0 : L = [] := by
      cases L with
      | nil => rfl
      | cons x r =>
        obtain ⟨b, o, h, _⟩ := hL 0 x rfl
        cases h
    subst e0
    have e1 : bstr [] = ByteArray.empty := rfl
    rw [e1]
    exact run_convert_bytes_nil w src e hs he 0 c dst hd
  · refine run_convert_bytes_arg w src e hs he b o L.length c (L.map Int.ofNat) (by simp) ?_ dst hd
    intro i hi
    obtain ⟨b', o', x, h1, _, hx, hc⟩ := hL.at_ hi
    injection h1 with h1
    injection h1 with e1 e2
    subst e1 e2
    rw [hc]
    simp [List.getD, hx]

end Go.Proofs.YtlbnngolcoefdaaDoor

/- Plain mathematics of FnVarBack, and the front of a new row. -/
namespace Go.Proofs.YtlbnngolcoefdaaDoor
open Go.RowKit

/-- The bytes of a number are read as the number, whatever follows. -/
theorem rd_back : ∀ (f k m x : Nat) (rest : List Nat), x < 128 * 128 ^ f → (k = 0 ∨ x ≠ 0) → m + x * 128 ^ k ≤ 4294967295 → rdF (f + 1) k m (varF f x ++ rest) = some (m + x * 128 ^ k, k + (varF f x).length)
  | 0, k, m, x, rest, hx, h0, hb => by
    have hx : x < 128 := by simpa using hx
    rw [varF, List.singleton_append, rdF, if_neg (by omega), Nat.mod_eq_of_lt hx, if_neg (by omega)]
    rfl
  | f + 1, k, m, x, rest, hx, h0, hb => by
    by_cases hs : x < 128
    · rw [varF_small (f + 1) x hs, List.singleton_append, rdF, if_neg (by omega), Nat.mod_eq_of_lt hs, if_neg (by omega)]
      rfl
    · rw [varF, if_neg hs, List.cons_append, rdF, if_pos (by omega), show (x % 128 + 128) % 128 = x % 128 by omega]
      have e : m + x % 128 * 128 ^ k + x / 128 * 128 ^ (k + 1) = m + x * 128 ^ k := by
        have h1 : x = x % 128 + 128 * (x / 128) := by omega
        conv => rhs; rw [h1]
        rw [Nat.add_mul, Nat.pow_succ, Nat.add_assoc, Nat.mul_comm 128 (x / 128), Nat.mul_assoc (x / 128) 128, Nat.mul_comm 128 (128 ^ k)]
      rw [rd_back f (k + 1) (m + x % 128 * 128 ^ k) (x / 128) rest (by rw [Nat.pow_succ] at hx; omega) (.inr (by omega)) (by rw [e]; exact hb), e, List.length_cons, Nat.add_assoc, Nat.add_comm 1]
theorem varF_mono : ∀ (f a b : Nat), a ≤ b → (varF f a).length ≤ (varF f b).length
  | 0, a, b, _ => by simp [varF]
  | f + 1, a, b, h => by
    rw [varF, varF]
    split
    · split
      · simp
      · simp
    · rw [if_neg (by omega)]
      have := varF_mono f (a / 128) (b / 128) (Nat.div_le_div_right h)
      simp only [List.length_cons]
      omega
theorem bitLen_pos (x : Nat) (h0 : x ≠ 0) (h : x < 2 ^ 64) : 1 ≤ Lib.bitLen x := by
  have := Lib.bitLen_half x h0 h
  omega
theorem varF_width : ∀ (f n : Nat), n < 128 * 128 ^ f → n < 2 ^ 64 → (varF f n).length = max 1 ((Lib.bitLen n + 6) / 7)
  | 0, n, h, h64 => by
    have := Lib.bitLen_le n 7 (by omega) (by simpa using h)
    simp only [varF, List.length_singleton]
    omega
  | f + 1, n, h, h64 => by
    by_cases hs : n < 128
    · have := Lib.bitLen_le n 7 (by omega) (by omega)
      rw [varF_small _ _ hs]
      simp only [List.length_singleton]
      omega
    · have h1 := Lib.bitLen_shift 7 n (by omega) h64
      have h2 := bitLen_pos (n / 128) (by omega) (by omega)
      have ih := varF_width f (n / 128) (by rw [Nat.pow_succ] at h; omega) (by omega)
      rw [varF, if_neg hs, List.length_cons, ih]
      have e : n / 2 ^ 7 = n / 128 := rfl
      rw [e] at h1
      omega

theorem own_front {w : World} {S : Nat} {e : TypeId} {xs : List Value} {T r : Nat} (h : Box w S e xs.toArray) (hl : xs.length = T) (hr : r ≤ T) (hT : T ≤ 5000) : w.ownsRow S e 1 (.slice (some ⟨S, 0, none⟩) r T) r (xs.take r) :=
  ⟨by rw [List.length_take, hl, Nat.mul_one, Nat.min_eq_left hr], .inr ⟨S, T, _, rfl, Nat.le_refl _, h, hr, by unfold maxLen; omega, by simp [hl], by rw [Nat.mul_one]⟩⟩

end Go.Proofs.YtlbnngolcoefdaaDoor
