import Derived.Test.YtlbnngolcoefdaaSelMath2
import Derived.Test.YtlbnngolcoefdaaMem3
import Derived.Test.YtlbnngolcoefdaaProg
import Derived.StillTailTactics
import Derived.Test.YtlbnngolcoefdaaPk2
/- The program's putField. -/
namespace Go.Proofs.Ytlbnngolcoefdaa
open Go.RowKit
set_option maxRecDepth 100000

theorem lay_or (y x s : Nat) (hy : y < 2 ^ 64) : bits .or .u64 (y : Int) (IntKind.u64.wrap ((x : Int) * 2 ^ s)) = ((y ||| x * 2 ^ s % 2 ^ 64 : Nat) : Int) := by
  have e : (x : Int) * 2 ^ s = ((x * 2 ^ s : Nat) : Int) := by simp
  have hw : IntKind.u64.wrap ((x : Int) * 2 ^ s) = ((x * 2 ^ s % 2 ^ 64 : Nat) : Int) := by rw [e, IntKind.wrap_u64]; omega
  rw [hw, u64_or_nat y _ hy (Nat.mod_lt _ (by decide))]
theorem lay_or0 (x r : Nat) (hx : x < 2 ^ 64) : bits .or .u64 0 ((x : Int) / 2 ^ r) = ((x / 2 ^ r : Nat) : Int) := by
  have e : (x : Int) / 2 ^ r = ((x / 2 ^ r : Nat) : Int) := by simp
  have h := u64_or_nat 0 (x / 2 ^ r) (by decide) (Nat.lt_of_le_of_lt (Nat.div_le_self _ _) hx)
  rw [Nat.zero_or] at h
  rw [e]
  exact h
theorem lay_shr (x s : Nat) (hs : s ≤ 64) : x * 2 ^ s / 2 ^ 64 = x / 2 ^ (64 - s) := by
  rw [show 2 ^ 64 = 2 ^ (64 - s) * 2 ^ s by rw [← Nat.pow_add, show 64 - s + s = 64 by omega], Nat.mul_div_mul_right _ _ (Nat.two_pow_pos _)]
theorem lay_set (D : List Nat) (i v : Nat) : (D.map U).toArray.setIfInBounds i (U v) = ((D.set i v).map U).toArray := by
  simp [List.map_set]

/-- The words of block S are the digits of a number, and nothing below it is touched. -/
def Laid (W : World) (S T v : Nat) (w' : World) : Prop := Box w' S 106 ((digits T v).map U).toArray ∧ Below S W w'

end Go.Proofs.Ytlbnngolcoefdaa

/- The program's PackOf. -/
namespace Go.Proofs.Ytlbnngolcoefdaa
open Go.RowKit
set_option maxRecDepth 100000

/-- Which numbers are packed at a width, and what PackOf is to return. -/
def poOk (B : List Int) (wd : Int) : Bool := fitsB B.length wd && B.all fun n => decide (0 ≤ n ∧ n < 2 ^ wd.toNat)
def poP (B : List Int) (wd : Int) : Int := if poOk B wd = true then wd else 0
def poN (B : List Int) (wd : Int) : Int := if poOk B wd = true then (B.length : Int) else 0
def poM (B : List Int) (wd : Int) : Int := if poOk B wd = true then (B.length : Int) * wd else 0
def poW (B : List Int) (wd : Int) : List Nat := if poOk B wd = true then digits ((B.length * wd.toNat + 63) / 64) (packNum wd.toNat B) else []

theorem fits_nat {n : Nat} {wd : Int} (h : fitsB n wd = true) : ∃ d : Nat, wd = d ∧ d ≤ 32 ∧ n ≤ 5000 ∧ n * d ≤ 5000 := by
  unfold fitsB at h
  rw [decide_eq_true_iff] at h
  obtain ⟨h1, h2, _, h4, h5⟩ := h
  obtain ⟨d, rfl⟩ := Int.eq_ofNat_of_zero_le h1
  refine ⟨d, rfl, by omega, by omega, ?_⟩
  have : ((n * d : Nat) : Int) ≤ 5000 := by simpa using h5
  omega

theorem poW_len (B : List Int) (wd : Int) : (poW B wd).length ≤ 79 := by
  unfold poW
  split
  · rename_i h
    unfold poOk at h
    rw [Bool.and_eq_true] at h
    obtain ⟨d, rfl, _, _, h3⟩ := fits_nat h.1
    rw [digits_len, Int.toNat_natCast]
    omega
  · simp

theorem digits_zero (T : Nat) : digits T 0 = List.replicate T 0 := by
  apply List.ext_getElem?
  intro j
  by_cases h : j < T
  · rw [digits_get _ _ _ h, List.getElem?_replicate, if_pos h]
    simp
  · rw [List.getElem?_eq_none (by rw [digits_len]; omega), List.getElem?_eq_none (by simp; omega)]

theorem own_of_box {w : World} {S : Nat} {e : TypeId} {xs : List Value} {T : Nat} (h : Box w S e xs.toArray) (hl : xs.length = T) (hT : T ≤ 5000) : w.ownsRow S e 1 (.slice (some ⟨S, 0, none⟩) T T) T xs :=
  ⟨by rw [hl, Nat.mul_one], .inr ⟨S, T, _, rfl, Nat.le_refl _, h, Nat.le_refl _, by unfold maxLen; omega, by simp [hl], by rw [Nat.mul_one, List.take_of_length_le (by simp [hl])]⟩⟩

theorem part_le' {i n wd m : Nat} (h : i < n) (hm : n * wd = m) : i * wd + wd ≤ m := by
  have h5 : (i + 1) * wd ≤ n * wd := Nat.mul_le_mul_right _ h
  rw [Nat.succ_mul] at h5
  omega

/-- What holds of the world after k rounds. -/
structure PoInv (w : World) (B : List Int) (wd T k : Nat) (wr : World) : Prop where
  below : Below w.heap.size w wr
  res : Box wr w.heap.size 34 #[.int .i64 0, .int .i64 0, .int .i64 0, .slice none 0 0]
  row : Box wr (w.heap.size + 1) 106 ((digits T (packNum wd (B.take k))).map U).toArray
  fine : ∀ n ∈ B.take k, 0 ≤ n ∧ n < 2 ^ wd

theorem PoInv.next {w : World} {B : List Int} {wd T k n : Nat} {wr w' : World} (h : PoInv w B wd T k wr) (hx : B[k]? = some (n : Int)) (hn : n < 2 ^ wd) (hp : Laid wr (w.heap.size + 1) T (packNum wd (B.take k) + 2 ^ (k * wd) * n) w') : PoInv w B wd T (k + 1) w' := by
  obtain ⟨hk, hx⟩ := List.getElem?_eq_some_iff.1 hx
  have hl : (B.take k).length = k := by rw [List.length_take]; omega
  obtain ⟨h1, h2⟩ := hp
  refine ⟨h.below.trans (h2.mono (by omega)), h.res.below h2 (by omega), ?_, ?_⟩
  · rw [List.take_succ_eq_append_getElem hk, hx, packNum_snoc _ _ _ hn, hl]
    exact h1
  · rw [List.take_succ_eq_append_getElem hk, hx]
    intro m hm
    rcases List.mem_append.1 hm with h3 | h3
    · exact h.fine m h3
    · obtain rfl : m = (n : Int) := by simpa using h3
      refine ⟨by omega, ?_⟩
      have : ((n : Nat) : Int) < ((2 ^ wd : Nat) : Int) := by omega
      simpa using this

/-- How PackOf ends where the numbers can be packed. -/
def PoEnd (w : World) (B : List Int) (n wd m T : Nat) (e : Ending) (w' : World) : Prop :=
  ((∀ x ∈ B, 0 ≤ x ∧ x < 2 ^ wd) ∧ NewPacked w wd n m (digits T (packNum wd B)) true e w') ∨ (¬ (∀ x ∈ B, 0 ≤ x ∧ x < 2 ^ wd) ∧ NewPacked w 0 0 0 [] false e w')

theorem po_unfit {w : World} {B : List Int} {wd : Int} (hf : fitsB B.length wd = false) : NewPacked w (poP B wd) (poN B wd) (poM B wd) (poW B wd) (poOk B wd) = NewPacked w 0 0 0 [] false := by
  have hok : poOk B wd = false := by unfold poOk; rw [hf, Bool.false_and]
  simp [poP, poN, poM, poW, hok]
theorem po_end {B : List Int} {d : Nat} {w : World} {e : Ending} {w' : World} (hf : fitsB B.length d = true) (h : PoEnd w B B.length d (B.length * d) ((B.length * d + 63) / 64) e w') : NewPacked w (poP B d) (poN B d) (poM B d) (poW B d) (poOk B d) e w' := by
  rcases h with ⟨hall, h⟩ | ⟨hno, h⟩
  · have hok : poOk B d = true := by
      unfold poOk
      rw [hf, Bool.true_and, List.all_eq_true]
      intro x hx
      rw [decide_eq_true_iff]
      exact hall x hx
    simp only [poP, poN, poM, poW, hok, if_true, Int.toNat_natCast]
    have e1 : ((B.length * d : Nat) : Int) = (B.length : Int) * (d : Int) := by simp
    rw [e1] at h
    exact h
  · have hok : poOk B d = false := by
      cases hk : poOk B d
      · rfl
      · unfold poOk at hk
        rw [hf, Bool.true_and, List.all_eq_true] at hk
        exact absurd (fun x hx => by have := hk x hx; rw [decide_eq_true_iff] at this; exact this) hno
    simp only [poP, poN, poM, poW, hok]
    exact h

end Go.Proofs.Ytlbnngolcoefdaa
