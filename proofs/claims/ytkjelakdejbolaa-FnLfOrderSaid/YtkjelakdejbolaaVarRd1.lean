/- VarRead: what it is to return, and the program's. -/
import Derived.Test.YtkjelakdejbolaaField8
import Derived.Test.YtkjelakdejbolaaVar1
namespace Go.Proofs.Ytkjelakdejbolaa
open Go.RowKit
set_option maxRecDepth 100000

/-- The number of a list of bytes, the least first. -/
def bnum : List Nat → Nat
  | [] => 0
  | x :: r => x + 256 * bnum r
theorem bnum_get : ∀ (C : List Nat) (_ : ∀ x ∈ C, x < 2 ^ 8) (j x : Nat), C[j]? = some x → x = bnum C / 2 ^ (8 * j) % 2 ^ 8
  | [], _, j, x, h => by simp at h
  | y :: r, hC, 0, x, h => by
    obtain rfl : y = x := by simpa using h
    have := hC y (by simp)
    rw [bnum, Nat.mul_zero, Nat.pow_zero, Nat.div_one]
    omega
  | y :: r, hC, j + 1, x, h => by
    have ih := bnum_get r (fun z hz => hC z (by simp [hz])) j x (by simpa using h)
    have hy := hC y (by simp)
    rw [bnum, show 8 * (j + 1) = 8 + 8 * j by omega, Nat.pow_add, ← Nat.div_div_eq_div_mul, show (y + 256 * bnum r) / 2 ^ 8 = bnum r by omega]
    exact ih
theorem field_seven (V k x : Nat) (h : x = V / 2 ^ (8 * k) % 2 ^ 8) : V / 2 ^ (8 * k) % 2 ^ 7 = x % 128 := by omega
theorem field_top (V k x : Nat) (h : x = V / 2 ^ (8 * k) % 2 ^ 8) : V / 2 ^ (8 * k + 7) % 2 ^ 1 = x / 128 := by
  rw [Nat.pow_add, ← Nat.div_div_eq_div_mul]
  omega

/-- Reading on: at most f bytes more, k are read, n is their number. -/
def rdF : Nat → Nat → Nat → List Nat → Option (Nat × Nat)
  | 0, _, _, _ => none
  | _ + 1, _, _, [] => none
  | f + 1, k, n, x :: r => if 128 ≤ x then rdF f (k + 1) (n + x % 128 * 128 ^ k) r else if (x = 0 ∧ 0 < k) ∨ 4294967295 < n + x % 128 * 128 ^ k then none else some (n + x % 128 * 128 ^ k, k + 1)
/-- What VarRead is to return. -/
def vrV (D : List Nat) (a : Int) : Int × Int × Bool :=
  if 0 ≤ a ∧ a < D.length then (match rdF 5 0 0 (D.drop a.toNat) with | some (n, k) => ((n : Int), a + (k : Int), true) | none => (0, 0, false)) else (0, 0, false)
/-- How VarRead ends. -/
def VrEnd (D : List Nat) (a : Int) (e : Ending) : Prop := e = .returned (.tuple #[.int .i64 (vrV D a).1, .int .i64 (vrV D a).2.1, .bool (vrV D a).2.2])

theorem vr_out {D : List Nat} {a : Int} (h : ¬ (0 ≤ a ∧ a < D.length)) : VrEnd D a (.returned (.tuple #[.int .i64 0, .int .i64 0, .bool false])) := by
  unfold VrEnd vrV
  rw [if_neg h]
theorem vr_none {D : List Nat} {a : Nat} (h : a < D.length) (hr : rdF 5 0 0 (D.drop a) = none) : VrEnd D a (.returned (.tuple #[.int .i64 0, .int .i64 0, .bool false])) := by
  unfold VrEnd vrV
  rw [if_pos (by omega), Int.toNat_natCast, hr]
theorem vr_some {D : List Nat} {a n k : Nat} (h : a < D.length) (hr : rdF 5 0 0 (D.drop a) = some (n, k)) : VrEnd D a (.returned (.tuple #[.int .i64 n, .int .i64 ((a : Int) + (k : Int)), .bool true])) := by
  unfold VrEnd vrV
  rw [if_pos (by omega), Int.toNat_natCast, hr]

theorem rd_step {C : List Nat} {f k n x : Nat} (hx : C[k]? = some x) : rdF (f + 1) k n (C.drop k) = if 128 ≤ x then rdF f (k + 1) (n + x % 128 * 128 ^ k) (C.drop (k + 1)) else if (x = 0 ∧ 0 < k) ∨ 4294967295 < n + x % 128 * 128 ^ k then none else some (n + x % 128 * 128 ^ k, k + 1) := by
  obtain ⟨hk, hx⟩ := List.getElem?_eq_some_iff.1 hx
  rw [List.drop_eq_getElem_cons hk, hx, rdF]
theorem rd_over {C : List Nat} {f k n : Nat} (hk : C.length ≤ k) : rdF f k n (C.drop k) = none := by
  rw [List.drop_of_length_le hk]
  cases f <;> rfl

theorem pow_le5 {k : Nat} (h : k ≤ 5) : 128 ^ k ≤ 34359738368 := Nat.le_trans (Nat.pow_le_pow_right (by omega) h) (by decide)
theorem rd_lt {n x k : Nat} (h : n < 128 ^ k) : n + x % 128 * 128 ^ k < 128 ^ (k + 1) := by
  have h1 : x % 128 + 1 ≤ 128 := Nat.mod_lt _ (by decide)
  have h2 := Nat.mul_le_mul_right (128 ^ k) h1
  rw [Nat.succ_mul] at h2
  rw [Nat.pow_succ]
  omega
/-- How the walk spells the round's or. -/
theorem rd_form (n d k : Nat) (hn : n < 128 ^ k) (hd : d < 128) (hk : k < 5) : bits .or .i64 (n : Int) (wrap64 ((d : Int) * 2 ^ (7 * k))) = ((n + d * 128 ^ k : Nat) : Int) := by
  have hp := pow_le5 (show k + 1 ≤ 5 by omega)
  have e128 : (128 : Nat) ^ k = 2 ^ (7 * k) := by rw [Nat.pow_mul]
  have h1 : n + d * 128 ^ k < 128 ^ (k + 1) := by
    have := rd_lt (x := d) hn
    rwa [Nat.mod_eq_of_lt hd] at this
  have e : (d : Int) * 2 ^ (7 * k) = ((d * 128 ^ k : Nat) : Int) := by rw [e128]; simp
  have hw : wrap64 ((d : Int) * 2 ^ (7 * k)) = ((d * 128 ^ k : Nat) : Int) := by rw [e]; exact IntWalk.wrap64_in _ (by omega)
  rw [hw]
  have h2 : n ||| d * 128 ^ k = n + d * 128 ^ k := by
    rw [Nat.or_comm, nat_or_add (7 * k) _ _ (by rw [← e128]; exact Nat.mul_mod_left _ _) (by rw [← e128]; exact hn), Nat.add_comm]
  generalize d * 128 ^ k = y at *
  have e1 : (BitVec.ofInt 64 (n : Int)).toNat = n := by rw [BitVec.ofInt_natCast, BitVec.toNat_ofNat]; exact Nat.mod_eq_of_lt (by omega)
  have e2 : (BitVec.ofInt 64 (y : Int)).toNat = y := by rw [BitVec.ofInt_natCast, BitVec.toNat_ofNat]; exact Nat.mod_eq_of_lt (by omega)
  show IntKind.i64.wrap ((BitVec.ofInt 64 (n : Int) ||| BitVec.ofInt 64 (y : Int)).toNat : Int) = _
  rw [BitVec.toNat_or, e1, e2, h2]
  exact IntWalk.i64_in _ (by omega)

end Go.Proofs.Ytkjelakdejbolaa
