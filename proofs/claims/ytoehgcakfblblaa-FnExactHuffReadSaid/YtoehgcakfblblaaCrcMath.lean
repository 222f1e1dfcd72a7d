import Derived.Test.YtoehgcakfblblaaProg
import Derived.Test.YtoehgcakfblblaaLaws2
import Derived.Test.YtoehgcakfblblaaInts1
/- VarOf, the specification's and the program's: the bytes of a number. -/
namespace Go.Proofs.Ytoehgcakfblblaa
open Go.RowKit
set_option maxRecDepth 100000

/-- The bytes of a number: seven bits each, at most f bytes ahead of the last one. -/
def varF : Nat → Nat → List Nat
  | 0, n => [n]
  | f + 1, n => if n < 128 then [n] else (n % 128 + 128) :: varF f (n / 128)
/-- What VarOf is to return. -/
def varV (n : Int) : List Nat := if 0 ≤ n ∧ n ≤ 4294967295 then varF 4 n.toNat else []
theorem varF_small (f x : Nat) (h : x < 128) : varF f x = [x] := by
  cases f with
  | zero => rfl
  | succ f => rw [varF, if_pos h]
theorem varF_len (f x : Nat) : (varF f x).length ≤ f + 1 := by
  induction f generalizing x with
  | zero => simp [varF]
  | succ f ih =>
    rw [varF]
    split
    · simp
    · have := ih (x / 128)
      simp only [List.length_cons]
      omega
theorem varV_len (n : Int) : (varV n).length ≤ 5 := by
  unfold varV
  split
  · exact varF_len 4 _
  · simp

theorem Try.infoU8 : (Try.prog.info? 5).map (fun i => (i.zero, i.size, i.bytes)) = some (some (.int .u8 0), 1, 1) := by kernel_rfl

/-- A new list of bytes is returned. -/
def NewBytes (w : World) (M : List Nat) (e : Ending) (w' : World) : Prop :=
  ∃ A c, e = .returned (.slice A M.length c) ∧ w'.ownsRow w.heap.size 5 1 (.slice A M.length c) M.length (M.map B8) ∧ Below w.heap.size w w'

theorem newBytes_own {w w' : World} {v : Value} {M : List Nat} {n : Nat} (h : w'.ownsRow w.heap.size 5 1 v n (M.map B8)) (hn : M.length = n) (hb : Below w.heap.size w w') : NewBytes w M (.returned v) w' := by
  subst hn
  obtain ⟨A, c, rfl⟩ := own_slice h
  exact ⟨A, c, rfl, h, hb⟩

end Go.Proofs.Ytoehgcakfblblaa

/- Contracts of the laws' own copies, comparisons, marks and tests of lists of bytes (written by bytesgen.py out of those of words). -/
namespace Go.Proofs.Ytoehgcakfblblaa
open Go.RowKit
set_option maxRecDepth 100000

/-- What is marked: a number's last byte. -/
abbrev mk8 (v : Int) : Value := .int .u8 (v % 256)

end Go.Proofs.Ytoehgcakfblblaa

/- The checksum as mathematics: its steps, that they keep to 32 bits, and that one changed byte changes it. -/
namespace Go.Proofs.Ytoehgcakfblblaa
open Go.RowKit

def crcStep (x : Nat) : Nat := if x % 2 = 1 then (x / 2) ^^^ 3988292384 else x / 2
def crcN : Nat → Nat → Nat
  | 0, x => x
  | k + 1, x => crcN k (crcStep x)
/-- The value after the bytes of a list. -/
def crcF (s : Nat) : List Nat → Nat
  | [] => s
  | b :: L => crcF (crcN 8 (s ^^^ b)) L
def crcL (L : List Nat) : Nat := crcF 4294967295 L ^^^ 4294967295
/-- What Crc is to return. -/
def crcV (L : List Nat) : Int := if 16000 < L.length then -1 else (crcL L : Int)

theorem crcStep_lt {x : Nat} (h : x < 2 ^ 32) : crcStep x < 2 ^ 32 := by
  unfold crcStep
  split
  · exact Nat.xor_lt_two_pow (by omega) (by decide)
  · omega
theorem crcN_lt : ∀ (k : Nat) {x : Nat}, x < 2 ^ 32 → crcN k x < 2 ^ 32
  | 0, _, h => h
  | k + 1, _, h => crcN_lt k (crcStep_lt h)
theorem crcN_succ : ∀ (k x : Nat), crcN (k + 1) x = crcStep (crcN k x)
  | 0, _ => rfl
  | k + 1, x => by rw [crcN, crcN_succ k]; rfl
theorem xor_byte_lt {s b : Nat} (hs : s < 2 ^ 32) (hb : b < 2 ^ 8) : s ^^^ b < 2 ^ 32 := Nat.xor_lt_two_pow hs (by omega)
theorem crcF_lt : ∀ (L : List Nat) {s : Nat}, s < 2 ^ 32 → (∀ x ∈ L, x < 2 ^ 8) → crcF s L < 2 ^ 32
  | [], _, h, _ => h
  | b :: L, _, h, hL => crcF_lt L (crcN_lt 8 (xor_byte_lt h (hL b (by simp)))) fun x hx => hL x (by simp [hx])
theorem crcL_lt (L : List Nat) (hL : ∀ x ∈ L, x < 2 ^ 8) : crcL L < 2 ^ 32 := Nat.xor_lt_two_pow (crcF_lt L (by decide) hL) (by decide)
theorem crcF_append : ∀ (L K : List Nat) (s : Nat), crcF s (L ++ K) = crcF (crcF s L) K
  | [], _, _ => rfl
  | b :: L, K, s => crcF_append L K _
theorem crcF_snoc (L : List Nat) (x s : Nat) : crcF s (L ++ [x]) = crcN 8 (crcF s L ^^^ x) := by rw [crcF_append]; rfl
theorem crcF_take (L : List Nat) (k x s : Nat) (h : L[k]? = some x) : crcF s (L.take (k + 1)) = crcN 8 (crcF s (L.take k) ^^^ x) := by
  rw [← crcF_snoc]
  congr 1
  obtain ⟨hk, he⟩ := List.getElem?_eq_some_iff.1 h
  rw [List.take_succ_eq_append_getElem hk, he]

theorem xor_right_inj {a b c : Nat} (h : a ^^^ c = b ^^^ c) : a = b := by
  have : (a ^^^ c) ^^^ c = (b ^^^ c) ^^^ c := by rw [h]
  simpa [Nat.xor_assoc] using this
theorem xor_left_inj {a b c : Nat} (h : c ^^^ a = c ^^^ b) : a = b := by
  rw [Nat.xor_comm c a, Nat.xor_comm c b] at h
  exact xor_right_inj h
/-- A step can be undone: its highest bit tells whether a one was shifted out. -/
theorem crcStep_inj {x y : Nat} (hx : x < 2 ^ 32) (hy : y < 2 ^ 32) (h : crcStep x = crcStep y) : x = y := by
  have top : ∀ z : Nat, z < 2 ^ 31 → (z ^^^ 3988292384).testBit 31 = true := fun z hz => by
    rw [Nat.testBit_xor, Nat.testBit_lt_two_pow hz]; rfl
  have low : ∀ z : Nat, z < 2 ^ 31 → z.testBit 31 = false := fun z hz => Nat.testBit_lt_two_pow hz
  unfold crcStep at h
  split at h <;> split at h
  · have := xor_right_inj h; omega
  · have h1 := top (x / 2) (by omega)
    rw [h, low _ (by omega)] at h1
    cases h1
  · have h1 := top (y / 2) (by omega)
    rw [← h, low _ (by omega)] at h1
    cases h1
  · omega
theorem crcN_inj : ∀ (k : Nat) {x y : Nat}, x < 2 ^ 32 → y < 2 ^ 32 → crcN k x = crcN k y → x = y
  | 0, _, _, _, _, h => h
  | k + 1, _, _, hx, hy, h => crcStep_inj hx hy (crcN_inj k (crcStep_lt hx) (crcStep_lt hy) h)
theorem crcF_inj : ∀ (L : List Nat) {s t : Nat}, s < 2 ^ 32 → t < 2 ^ 32 → (∀ x ∈ L, x < 2 ^ 8) → crcF s L = crcF t L → s = t
  | [], _, _, _, _, _, h => h
  | b :: L, s, t, hs, ht, hL, h => by
    have hb := hL b (by simp)
    exact xor_right_inj (crcN_inj 8 (xor_byte_lt hs hb) (xor_byte_lt ht hb) (crcF_inj L (crcN_lt 8 (xor_byte_lt hs hb)) (crcN_lt 8 (xor_byte_lt ht hb)) (fun x hx => hL x (by simp [hx])) h))
/-- One changed byte changes the checksum. -/
theorem crcL_one (P Q : List Nat) (x y : Nat) (hP : ∀ z ∈ P, z < 2 ^ 8) (hQ : ∀ z ∈ Q, z < 2 ^ 8) (hx : x < 2 ^ 8) (hy : y < 2 ^ 8) (h : crcL (P ++ x :: Q) = crcL (P ++ y :: Q)) : x = y := by
  unfold crcL at h
  have h1 := xor_right_inj h
  rw [crcF_append, crcF_append] at h1
  have hs := crcF_lt P (s := 4294967295) (by decide) hP
  have h2 : crcN 8 (crcF 4294967295 P ^^^ x) = crcN 8 (crcF 4294967295 P ^^^ y) := crcF_inj Q (crcN_lt 8 (xor_byte_lt hs hx)) (crcN_lt 8 (xor_byte_lt hs hy)) hQ h1
  exact xor_left_inj (crcN_inj 8 (xor_byte_lt hs hx) (xor_byte_lt hs hy) h2)

theorem i64_xor_nat (a b : Nat) (ha : a < 2 ^ 32) (hb : b < 2 ^ 32) : bits .xor .i64 (a : Int) (b : Int) = ((a ^^^ b : Nat) : Int) := by
  have e1 : (BitVec.ofInt 64 (a : Int)).toNat = a := by rw [BitVec.ofInt_natCast, BitVec.toNat_ofNat]; exact Nat.mod_eq_of_lt (by omega)
  have e2 : (BitVec.ofInt 64 (b : Int)).toNat = b := by rw [BitVec.ofInt_natCast, BitVec.toNat_ofNat]; exact Nat.mod_eq_of_lt (by omega)
  have h := Nat.xor_lt_two_pow ha hb
  show IntKind.i64.wrap ((BitVec.ofInt 64 (a : Int) ^^^ BitVec.ofInt 64 (b : Int)).toNat : Int) = _
  rw [BitVec.toNat_xor, e1, e2]
  exact IntWalk.i64_in _ (by omega)
theorem u32_xor_nat (a b : Nat) (ha : a < 2 ^ 32) (hb : b < 2 ^ 32) : bits .xor .u32 (a : Int) (b : Int) = ((a ^^^ b : Nat) : Int) := by
  have e1 : (BitVec.ofInt 32 (a : Int)).toNat = a := by rw [BitVec.ofInt_natCast, BitVec.toNat_ofNat]; exact Nat.mod_eq_of_lt (by omega)
  have e2 : (BitVec.ofInt 32 (b : Int)).toNat = b := by rw [BitVec.ofInt_natCast, BitVec.toNat_ofNat]; exact Nat.mod_eq_of_lt (by omega)
  have h := Nat.xor_lt_two_pow ha hb
  show IntKind.u32.wrap ((BitVec.ofInt 32 (a : Int) ^^^ BitVec.ofInt 32 (b : Int)).toNat : Int) = _
  rw [BitVec.toNat_xor, e1, e2]
  simp only [IntKind.wrap, IntKind.signed, IntKind.bits]
  simp
  omega

/-- The four bytes of a number. -/
def four (n : Nat) : List Nat := [n % 256, n / 256 % 256, n / 65536 % 256, n / 16777216 % 256]
theorem four_byte (n : Nat) : ∀ x ∈ four n, x < 2 ^ 8 := by
  unfold four
  simp
  omega
theorem four_inj {m n : Nat} (hm : m < 2 ^ 32) (hn : n < 2 ^ 32) (h : four m = four n) : m = n := by
  unfold four at h
  simp at h
  omega

end Go.Proofs.Ytoehgcakfblblaa
