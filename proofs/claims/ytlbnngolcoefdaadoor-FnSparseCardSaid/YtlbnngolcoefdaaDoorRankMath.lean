import Init
import Derived.Test.YtlbnngolcoefdaaDoorBitMath2
/- Plain mathematics of counting the bits 1 of a word by parallel sums. -/
namespace Go.Proofs.YtlbnngolcoefdaaDoor

/-- How many of the last n binary digits are 1. -/
def popN : Nat → Nat → Nat
  | 0, _ => 0
  | n + 1, x => x % 2 + popN n (x / 2)

theorem popN_add (n k x : Nat) : popN (n + k) x = popN n x + popN k (x / 2 ^ n) := by
  induction n generalizing x with
  | zero => simp [popN]
  | succ n ih =>
    rw [show n + 1 + k = (n + k) + 1 by omega]
    simp only [popN]
    rw [ih, Nat.div_div_eq_div_mul, Nat.pow_succ, Nat.mul_comm 2, Nat.add_assoc]
theorem popN_mod (n x : Nat) : popN n (x % 2 ^ n) = popN n x := by
  induction n generalizing x with
  | zero => rfl
  | succ n ih =>
    simp only [popN]
    rw [Nat.pow_succ, Nat.mul_comm, Nat.mod_mul_right_mod, Nat.mod_mul_right_div_self, ih]
theorem popN_le (n x : Nat) : popN n x ≤ n := by
  induction n generalizing x with
  | zero => exact Nat.le_refl _
  | succ n ih =>
    have := ih (x / 2)
    have h2 := Nat.mod_lt x (show 0 < 2 by omega)
    simp only [popN]
    omega

/-- A function of a byte, byte by byte. -/
def bw (g : Nat → Nat) : Nat → Nat → Nat
  | 0, _ => 0
  | n + 1, x => g (x % 256) + 256 * bw g n (x / 256)
def mask (m : Nat) : Nat → Nat
  | 0 => 0
  | n + 1 => m + 256 * mask m n

theorem and_byte (a b : Nat) : a &&& b = (a % 256 &&& b % 256) + 256 * (a / 256 &&& b / 256) := by
  have h1 : (a &&& b) % 2 ^ 8 = (a % 2 ^ 8) &&& (b % 2 ^ 8) := Nat.and_mod_two_pow
  have h2 : (a &&& b) / 2 ^ 8 = (a / 2 ^ 8) &&& (b / 2 ^ 8) := Nat.and_div_two_pow
  have h3 := Nat.div_add_mod (a &&& b) (2 ^ 8)
  rw [h1, h2] at h3
  simp only [show (2 : Nat) ^ 8 = 256 from rfl] at h3
  omega
theorem and_small (y m k : Nat) (hm : m < 2 ^ k) : y &&& m = (y % 2 ^ k) &&& m := by
  have h1 : (y &&& m) % 2 ^ k = (y % 2 ^ k) &&& (m % 2 ^ k) := Nat.and_mod_two_pow
  rw [Nat.mod_eq_of_lt hm, Nat.mod_eq_of_lt (Nat.and_lt_two_pow _ hm)] at h1
  exact h1

theorem shift_and (s m : Nat) (hs : s ≤ 8) (hm : m < 2 ^ (8 - s)) : ∀ n x, (x / 2 ^ s) &&& mask m n = bw (fun b => (b / 2 ^ s) &&& m) n x
  | 0, x => by simp [mask, bw]
  | n + 1, x => by
    have hm8 : m < 256 := Nat.lt_of_lt_of_le hm (show 2 ^ (8 - s) ≤ 2 ^ 8 from Nat.pow_le_pow_right (by omega) (by omega))
    have hp : 2 ^ s * 2 ^ (8 - s) = 256 := by rw [← Nat.pow_add, show s + (8 - s) = 8 by omega]
    have e1 : (m + 256 * mask m n) % 256 = m := by rw [Nat.add_mul_mod_self_left, Nat.mod_eq_of_lt hm8]
    have e2 : (m + 256 * mask m n) / 256 = mask m n := by omega
    have e3 : x / 2 ^ s / 256 = x / 256 / 2 ^ s := by rw [Nat.div_div_eq_div_mul, Nat.div_div_eq_div_mul, Nat.mul_comm]
    have e4 : x / 2 ^ s % 256 &&& m = (x % 256 / 2 ^ s) &&& m := by
      rw [and_small (x / 2 ^ s % 256) m _ hm, and_small (x % 256 / 2 ^ s) m _ hm]
      congr 1
      rw [← hp, Nat.mod_mul_right_div_self, Nat.mod_mod, Nat.mul_comm, Nat.mod_mul_right_mod]
    simp only [mask, bw]
    rw [and_byte, e1, e2, e3, e4, shift_and s m hs hm n]

theorem bw_add (g h : Nat → Nat) : ∀ n x, bw g n x + bw h n x = bw (fun b => g b + h b) n x
  | 0, x => rfl
  | n + 1, x => by
    have := bw_add g h n (x / 256)
    simp only [bw]
    omega
theorem bw_bw (g f : Nat → Nat) (hf : ∀ b, b < 256 → f b < 256) : ∀ n x, bw g n (bw f n x) = bw (fun b => g (f b)) n x
  | 0, x => rfl
  | n + 1, x => by
    have h1 := hf (x % 256) (Nat.mod_lt _ (by omega))
    simp only [bw]
    rw [Nat.add_mul_mod_self_left, Nat.mod_eq_of_lt h1, Nat.add_mul_div_left _ _ (by omega), Nat.div_eq_of_lt h1, Nat.zero_add, bw_bw g f hf n]
theorem bw_lt (g : Nat → Nat) (c : Nat) (hg : ∀ b, b < 256 → g b ≤ c) : ∀ n x, bw g n x ≤ mask c n
  | 0, x => Nat.le_refl _
  | n + 1, x => by
    have h1 := hg (x % 256) (Nat.mod_lt _ (by omega))
    have h2 := bw_lt g c hg n (x / 256)
    simp only [bw, mask]
    omega
theorem bw_congr (g h : Nat → Nat) (hh : ∀ b, b < 256 → g b = h b) : ∀ n x, bw g n x = bw h n x
  | 0, x => rfl
  | n + 1, x => by simp only [bw]; rw [hh _ (Nat.mod_lt _ (by omega)), bw_congr g h hh n]

theorem bw_low (f : Nat → Nat) (hf : ∀ b, b < 256 → f b % 16 ≤ 4 ∧ f b / 16 ≤ 4) (n x : Nat) : bw f n x % 16 ≤ 4 := by
  cases n with
  | zero => simp [bw]
  | succ n =>
    have h1 := hf (x % 256) (Nat.mod_lt _ (by omega))
    simp only [bw]
    omega
/-- The third step: the two halves of each byte are added, where they are at most 4. -/
theorem halves (f : Nat → Nat) (hf : ∀ b, b < 256 → f b % 16 ≤ 4 ∧ f b / 16 ≤ 4) : ∀ n x, (bw f n x / 16 + bw f n x) &&& mask 15 n = bw (fun b => f b % 16 + f b / 16) n x
  | 0, x => by simp [mask, bw]
  | n + 1, x => by
    have h1 := hf (x % 256) (Nat.mod_lt _ (by omega))
    have ih := halves f hf n (x / 256)
    have hlow := bw_low f hf n (x / 256)
    simp only [bw, mask]
    generalize f (x % 256) = b at *
    generalize bw f n (x / 256) = y at *
    have hs : (b + 256 * y) / 16 + (b + 256 * y) = (b + b / 16 + 16 * (y % 16)) + 256 * (y / 16 + y) := by omega
    have hl : b + b / 16 + 16 * (y % 16) < 256 := by omega
    rw [hs, and_byte, Nat.add_mul_mod_self_left, Nat.mod_eq_of_lt hl, Nat.add_mul_div_left _ _ (by omega), Nat.div_eq_of_lt hl, Nat.zero_add, Nat.add_mul_mod_self_left, show 15 % 256 = 15 from rfl, show (15 + 256 * mask 15 n) / 256 = mask 15 n by omega, ih]
    have h15 : (b + b / 16 + 16 * (y % 16)) &&& 15 = (b + b / 16 + 16 * (y % 16)) % 16 := Nat.and_two_pow_sub_one_eq_mod _ 4
    rw [h15]
    omega

def g1 (b : Nat) : Nat := (b / 2 ^ 1 &&& 85) + (b / 2 ^ 0 &&& 85)
def g2 (b : Nat) : Nat := (b / 2 ^ 2 &&& 51) + (b / 2 ^ 0 &&& 51)

theorem g1_lt : ∀ b, b < 256 → g1 b < 256 := by decide +kernel
theorem g1_le : ∀ b, b < 256 → g1 b ≤ 170 := by decide +kernel
theorem g2_ok : ∀ b, b < 256 → g2 (g1 b) % 16 ≤ 4 ∧ g2 (g1 b) / 16 ≤ 4 := by decide +kernel
theorem g2_le : ∀ b, b < 256 → g2 (g1 b) ≤ 68 := by decide +kernel
theorem g_pop : ∀ b, b < 256 → g2 (g1 b) % 16 + g2 (g1 b) / 16 = popN 8 b := by decide +kernel

/-- The parallel sums, as the library writes them. -/
def par1 (x : Nat) : Nat := (x / 2 &&& 6148914691236517205) + (x &&& 6148914691236517205)
def par2 (x : Nat) : Nat := (x / 4 &&& 3689348814741910323) + (x &&& 3689348814741910323)
def par3 (x : Nat) : Nat := (x / 16 + x) &&& 1085102592571150095

theorem par1_eq (x : Nat) : par1 x = bw g1 8 x := by
  have e1 := shift_and 1 85 (by omega) (by decide) 8 x
  have e0 := shift_and 0 85 (by omega) (by decide) 8 x
  rw [Nat.pow_zero, Nat.div_one] at e0
  have hm : mask 85 8 = 6148914691236517205 := by decide +kernel
  rw [hm] at e1 e0
  unfold par1 g1
  rw [← bw_add, ← e1, ← e0]
theorem par2_eq (x : Nat) : par2 x = bw g2 8 x := by
  have e1 := shift_and 2 51 (by omega) (by decide) 8 x
  have e0 := shift_and 0 51 (by omega) (by decide) 8 x
  rw [Nat.pow_zero, Nat.div_one] at e0
  have hm : mask 51 8 = 3689348814741910323 := by decide +kernel
  rw [hm] at e1 e0
  unfold par2 g2
  rw [← bw_add, ← e1, ← e0]
theorem par_pop (x : Nat) : par3 (par2 (par1 x)) = bw (popN 8) 8 x := by
  rw [par1_eq, par2_eq, bw_bw g2 g1 g1_lt]
  have h := halves (fun b => g2 (g1 b)) g2_ok 8 x
  have hm : mask 15 8 = 1085102592571150095 := by decide +kernel
  rw [hm] at h
  unfold par3
  rw [h]
  exact bw_congr _ _ g_pop 8 x
theorem par1_le (x : Nat) : par1 x ≤ 12297829382473034410 := by
  rw [par1_eq]
  exact Nat.le_trans (bw_lt g1 170 g1_le 8 x) (by decide +kernel)
theorem par2_le (x : Nat) : par2 (par1 x) ≤ 4919131752989213764 := by
  rw [par1_eq, par2_eq, bw_bw g2 g1 g1_lt]
  exact Nat.le_trans (bw_lt _ 68 g2_le 8 x) (by decide +kernel)
theorem par3_le (x : Nat) : par3 (par2 (par1 x)) ≤ 578721382704613384 := by
  rw [par_pop]
  exact Nat.le_trans (bw_lt _ 8 (fun b _ => popN_le 8 b) 8 x) (by decide +kernel)

/-- The last sums: the bytes, each at most 8, are added up in the lowest one. -/
def up8 (x : Nat) : Nat := x + x / 256
def up16 (x : Nat) : Nat := x + x / 65536
def up32 (x : Nat) : Nat := x + x / 4294967296

theorem sums (p0 p1 p2 p3 p4 p5 p6 p7 : Nat) (h0 : p0 ≤ 8) (h1 : p1 ≤ 8) (h2 : p2 ≤ 8) (h3 : p3 ≤ 8) (h4 : p4 ≤ 8) (h5 : p5 ≤ 8) (h6 : p6 ≤ 8) (h7 : p7 ≤ 8) :
    up32 (up16 (up8 (p0 + 256 * (p1 + 256 * (p2 + 256 * (p3 + 256 * (p4 + 256 * (p5 + 256 * (p6 + 256 * (p7 + 256 * 0)))))))))) % 128 = p0 + p1 + p2 + p3 + p4 + p5 + p6 + p7 := by
  have e1 : up8 (p0 + 256 * (p1 + 256 * (p2 + 256 * (p3 + 256 * (p4 + 256 * (p5 + 256 * (p6 + 256 * (p7 + 256 * 0)))))))) = (p0 + p1) + 256 * ((p1 + p2) + 256 * ((p2 + p3) + 256 * ((p3 + p4) + 256 * ((p4 + p5) + 256 * ((p5 + p6) + 256 * ((p6 + p7) + 256 * p7)))))) := by
    unfold up8; omega
  have e2 : up16 (up8 (p0 + 256 * (p1 + 256 * (p2 + 256 * (p3 + 256 * (p4 + 256 * (p5 + 256 * (p6 + 256 * (p7 + 256 * 0))))))))) = (p0 + p1 + p2 + p3) + 256 * ((p1 + p2 + p3 + p4) + 256 * ((p2 + p3 + p4 + p5) + 256 * ((p3 + p4 + p5 + p6) + 256 * ((p4 + p5 + p6 + p7) + 256 * ((p5 + p6 + p7) + 256 * ((p6 + p7) + 256 * p7)))))) := by
    rw [e1]; unfold up16; omega
  rw [e2]
  unfold up32
  obtain ⟨Y, hY⟩ : ∃ Y, Y = (p5 + p6 + p7) + 256 * ((p6 + p7) + 256 * p7) := ⟨_, rfl⟩
  rw [← hY]
  clear hY e1 e2
  have e3 : (p0 + p1 + p2 + p3 + 256 * (p1 + p2 + p3 + p4 + 256 * (p2 + p3 + p4 + p5 + 256 * (p3 + p4 + p5 + p6 + 256 * (p4 + p5 + p6 + p7 + 256 * Y))))) / 4294967296 = p4 + p5 + p6 + p7 + 256 * Y := by omega
  rw [e3]
  omega

theorem pop_bytes (x : Nat) : bw (popN 8) 8 x = popN 8 (x % 256) + 256 * (popN 8 (x / 256 % 256) + 256 * (popN 8 (x / 256 / 256 % 256) + 256 * (popN 8 (x / 256 / 256 / 256 % 256) + 256 * (popN 8 (x / 256 / 256 / 256 / 256 % 256) + 256 * (popN 8 (x / 256 / 256 / 256 / 256 / 256 % 256) + 256 * (popN 8 (x / 256 / 256 / 256 / 256 / 256 / 256 % 256) + 256 * (popN 8 (x / 256 / 256 / 256 / 256 / 256 / 256 / 256 % 256) + 256 * 0))))))) := rfl

theorem pop_split (k x : Nat) : popN (8 + k) x = popN 8 (x % 256) + popN k (x / 256) := by
  rw [popN_add]
  have := popN_mod 8 x
  rw [show (2 : Nat) ^ 8 = 256 from rfl] at this ⊢
  rw [this]

theorem ones_count (x : Nat) : up32 (up16 (up8 (par3 (par2 (par1 x))))) % 128 = popN 64 x := by
  rw [par_pop, pop_bytes, sums _ _ _ _ _ _ _ _ (popN_le _ _) (popN_le _ _) (popN_le _ _) (popN_le _ _) (popN_le _ _) (popN_le _ _) (popN_le _ _) (popN_le _ _)]
  rw [show 64 = 8 + 56 from rfl, pop_split 56, show 56 = 8 + 48 from rfl, pop_split 48, show 48 = 8 + 40 from rfl, pop_split 40, show 40 = 8 + 32 from rfl, pop_split 32, show 32 = 8 + 24 from rfl, pop_split 24, show 24 = 8 + 16 from rfl, pop_split 16, show 16 = 8 + 8 from rfl, pop_split 8, show popN 8 (x / 256 / 256 / 256 / 256 / 256 / 256 / 256) = popN 8 (x / 256 / 256 / 256 / 256 / 256 / 256 / 256 % 256) from (popN_mod 8 _).symm]
  omega

end Go.Proofs.YtlbnngolcoefdaaDoor

/- Counting bits. -/
namespace Go.Proofs.YtlbnngolcoefdaaDoor

/-- How many of the first k bits are b. -/
def cnt (L : List Nat) (b : Int) : Nat → Nat
  | 0 => 0
  | k + 1 => cnt L b k + if (bitN L k : Int) = b then 1 else 0
theorem cnt_yes (L : List Nat) (b : Int) (k : Nat) (h : (bitN L k : Int) = b) : cnt L b (k + 1) = cnt L b k + 1 := by rw [cnt, if_pos h]
theorem cnt_no (L : List Nat) (b : Int) (k : Nat) (h : ¬ (bitN L k : Int) = b) : cnt L b (k + 1) = cnt L b k := by rw [cnt, if_neg h, Nat.add_zero]
theorem cnt_le (L : List Nat) (b : Int) (k : Nat) : cnt L b k ≤ k := by
  induction k with
  | zero => exact Nat.le_refl _
  | succ k ih =>
    rw [cnt]
    split <;> omega
theorem cnt_sum (L : List Nat) (k : Nat) : cnt L 0 k + cnt L 1 k = k := by
  induction k with
  | zero => rfl
  | succ k ih =>
    have h := bitN_lt L k
    rw [cnt, cnt]
    by_cases h0 : bitN L k = 0
    · rw [if_pos (by omega), if_neg (by omega)]
      omega
    · rw [if_neg (by omega), if_pos (by omega)]
      omega

theorem popN_succ (r x : Nat) : popN (r + 1) x = popN r x + x / 2 ^ r % 2 := by
  rw [popN_add r 1 x]
  simp [popN]

/-- How many bits 1 the first q words have. -/
def popL (L : List Nat) : Nat → Nat
  | 0 => 0
  | q + 1 => popL L q + popN 64 (L[q]?.getD 0)

theorem cnt_word (L : List Nat) (q : Nat) : ∀ r, r ≤ 64 → cnt L 1 (64 * q + r) = cnt L 1 (64 * q) + popN r (L[q]?.getD 0)
  | 0, _ => rfl
  | r + 1, h => by
    rw [← Nat.add_assoc, popN_succ, ← Nat.add_assoc, ← cnt_word L q r (by omega)]
    have e : bitN L (64 * q + r) = L[q]?.getD 0 / 2 ^ r % 2 := by
      unfold bitN
      rw [show (64 * q + r) / 64 = q by omega, show (64 * q + r) % 64 = r by omega]
      try simp
    have h2 := bitN_lt L (64 * q + r)
    rw [← e, cnt]
    by_cases h1 : bitN L (64 * q + r) = 1
    · rw [if_pos (by omega), h1]
    · rw [if_neg (by omega)]
      omega
theorem cnt_pop (L : List Nat) (q : Nat) : cnt L 1 (64 * q) = popL L q := by
  induction q with
  | zero => rfl
  | succ q ih => rw [Nat.mul_succ, cnt_word L q 64 (Nat.le_refl _), ih, popL]
theorem popL_le (L : List Nat) (q : Nat) : popL L q ≤ 64 * q := by
  rw [← cnt_pop]
  exact cnt_le _ _ _

/-- What Rank is to return. -/
def rankV (N : Int) (L : List Nat) (b i : Int) : Int := if okB N L = true ∧ (b = 0 ∨ b = 1) ∧ 0 ≤ i ∧ i ≤ N then (cnt L b i.toNat : Int) else -1

end Go.Proofs.YtlbnngolcoefdaaDoor
