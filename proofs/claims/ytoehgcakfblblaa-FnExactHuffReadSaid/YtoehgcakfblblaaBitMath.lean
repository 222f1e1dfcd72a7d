import Derived.ProofKit
import Init
/- Plain mathematics of code lengths: what valid lengths are, where each symbol's code begins, and that no code begins another one. No program here. -/
namespace Go.Proofs.Ytoehgcakfblblaa

/-- The weight of a length: 2^(60 - l); nothing for the length 0. -/
def hw (l : Int) : Nat := if 0 < l then 2 ^ (60 - l).toNat else 0
theorem hw_zero {l : Int} (h : ¬ 0 < l) : hw l = 0 := if_neg h
theorem hw_pos {l : Int} (h : 0 < l) : hw l = 2 ^ (60 - l).toNat := if_pos h
theorem hw_le (l : Int) : hw l ≤ 2 ^ 59 := by
  rcases Classical.em (0 < l) with h | h
  · rw [hw_pos h]; exact Nat.pow_le_pow_right (by omega) (by omega)
  · rw [hw_zero h]; omega
theorem hw_ge {l : Int} (h : 0 < l) : 1 ≤ hw l := by rw [hw_pos h]; exact Nat.two_pow_pos _

def hsum : List Int → Nat
  | [] => 0
  | l :: L => hw l + hsum L
def hcnt : List Int → Nat
  | [] => 0
  | l :: L => (if 0 < l then 1 else 0) + hcnt L
def hone : List Int → Nat
  | [] => 0
  | l :: L => (if l = 1 then 1 else 0) + hone L
def hlast : List Int → Int → Int
  | [], a => a
  | l :: L, a => hlast L (if 0 < l then l else a)
theorem hsum_app (L M : List Int) : hsum (L ++ M) = hsum L + hsum M := by
  induction L with
  | nil => simp [hsum]
  | cons l L ih => simp only [List.cons_append, hsum, ih]; omega
theorem hcnt_app (L M : List Int) : hcnt (L ++ M) = hcnt L + hcnt M := by
  induction L with
  | nil => simp [hcnt]
  | cons l L ih => simp only [List.cons_append, hcnt, ih]; omega
theorem hone_app (L M : List Int) : hone (L ++ M) = hone L + hone M := by
  induction L with
  | nil => simp [hone]
  | cons l L ih => simp only [List.cons_append, hone, ih]; omega
theorem hlast_app (L M : List Int) (a : Int) : hlast (L ++ M) a = hlast M (hlast L a) := by
  induction L generalizing a with
  | nil => rfl
  | cons l L ih => exact ih _
theorem hcnt_le (L : List Int) : hcnt L ≤ L.length := by
  induction L with
  | nil => exact Nat.le_refl _
  | cons l L ih => simp only [hcnt, List.length_cons]; split <;> omega
theorem hone_le (L : List Int) : hone L ≤ hcnt L := by
  induction L with
  | nil => exact Nat.le_refl _
  | cons l L ih =>
    simp only [hone, hcnt]
    by_cases h : l = 1
    · rw [if_pos h, if_pos (by omega)]; omega
    · rw [if_neg h]; split <;> omega
theorem hcnt_zero : ∀ (L : List Int) (a : Int), hcnt L = 0 → hsum L = 0 ∧ hlast L a = a
  | [], _, _ => ⟨rfl, rfl⟩
  | l :: L, a, h => by
    simp only [hcnt] at h
    by_cases hl : 0 < l
    · rw [if_pos hl] at h; omega
    · have h2 := hcnt_zero L a (by omega)
      simp only [hsum, hlast]
      rw [hw_zero hl, if_neg hl]
      exact ⟨by omega, h2.2⟩
theorem hcnt_one : ∀ (L : List Int) (a : Int), hcnt L = 1 → hsum L = hw (hlast L a) ∧ (hlast L a = 1 ↔ hone L = 1)
  | [], _, h => by simp [hcnt] at h
  | l :: L, a, h => by
    simp only [hcnt] at h
    by_cases hl : 0 < l
    · rw [if_pos hl] at h
      have h2 := hcnt_zero L l (by omega)
      have h3 := hone_le L
      simp only [hsum, hlast, hone]
      rw [if_pos hl, h2.2]
      refine ⟨by omega, ?_⟩
      split <;> constructor <;> omega
    · rw [if_neg hl] at h
      have h2 := hcnt_one L a (by omega)
      simp only [hsum, hlast, hone]
      rw [if_neg hl, hw_zero hl, if_neg (show ¬ l = 1 by omega)]
      exact ⟨by omega, ⟨fun e => by have := h2.2.mp e; omega, fun e => h2.2.mpr (by omega)⟩⟩
theorem hsum_take_le (L : List Int) (k : Nat) : hsum (L.take k) ≤ hsum L := by
  have h := hsum_app (L.take k) (L.drop k)
  rw [List.take_append_drop] at h
  omega
theorem hsum_le_len (L : List Int) : hsum L ≤ L.length * 2 ^ 59 := by
  induction L with
  | nil => simp [hsum]
  | cons l L ih => have := hw_le l; simp only [hsum, List.length_cons]; omega

/-- Valid lengths. -/
def okH (L : List Int) : Bool := decide (L.length ≤ 300) && (L.all (fun l => decide (0 ≤ l ∧ l ≤ 60)) && (decide (hcnt L = 1 ∧ hlast L 0 = 1) || decide (hsum L = 2 ^ 60)))
theorem okH_len {L : List Int} (h : okH L = true) : L.length ≤ 300 := by
  simp only [okH, Bool.and_eq_true, decide_eq_true_eq] at h; exact h.1
theorem okH_all {L : List Int} (h : okH L = true) : ∀ l ∈ L, 0 ≤ l ∧ l ≤ 60 := by
  simp only [okH, Bool.and_eq_true, List.all_eq_true, decide_eq_true_eq] at h; exact h.2.1
theorem okH_sum {L : List Int} (h : okH L = true) : hsum L ≤ 2 ^ 60 := by
  simp only [okH, Bool.and_eq_true, Bool.or_eq_true, decide_eq_true_eq] at h
  rcases h.2.2 with h | h
  · have h2 := (hcnt_one L 0 h.1).1
    have := hw_le (hlast L 0)
    omega
  · omega
theorem okH_big {L : List Int} (h : 300 < L.length) : okH L = false := by
  cases e : okH L with
  | false => rfl
  | true => have := okH_len e; omega
theorem okH_bad {L : List Int} {i : Nat} {x : Int} (hi : L[i]? = some x) (hx : ¬ (0 ≤ x ∧ x ≤ 60)) : okH L = false := by
  cases e : okH L with
  | false => rfl
  | true => exact absurd (okH_all e x (List.mem_of_getElem? hi)) hx
theorem okH_over {L : List Int} {k : Nat} (h : 2 ^ 60 < hsum (L.take k)) : okH L = false := by
  cases e : okH L with
  | false => rfl
  | true => have := okH_sum e; have := hsum_take_le L k; omega
theorem okH_end {L : List Int} (h1 : L.length ≤ 300) (h2 : ∀ l ∈ L, 0 ≤ l ∧ l ≤ 60) : okH L = (decide (hcnt L = 1 ∧ hlast L 0 = 1) || decide (hsum L = 2 ^ 60)) := by
  have : L.all (fun l => decide (0 ≤ l ∧ l ≤ 60)) = true := by simpa [List.all_eq_true] using h2
  unfold okH
  rw [this, decide_eq_true h1, Bool.true_and, Bool.true_and]
theorem okH_end' {L : List Int} (h1 : L.length ≤ 300) (h2 : ∀ l ∈ L, 0 ≤ l ∧ l ≤ 60) : okH L = decide (hsum L = 2 ^ 60 ∨ (hcnt L = 1 ∧ hone L = 1)) := by
  rw [okH_end h1 h2, ← Bool.decide_or]
  refine decide_eq_decide.mpr ⟨?_, ?_⟩
  · rintro (h | h)
    · exact .inr ⟨h.1, (hcnt_one L 0 h.1).2.mp h.2⟩
    · exact .inl h
  · rintro (h | h)
    · exact .inr h
    · exact .inl ⟨h.1, (hcnt_one L 0 h.1).2.mpr h.2⟩

/-- Valid counts. -/
def okC (C : List Int) : Bool := decide (C.length ≤ 300) && C.all (fun c => decide (0 ≤ c ∧ c ≤ 1000000))
theorem okC_iff (C : List Int) : okC C = true ↔ C.length ≤ 300 ∧ ∀ c ∈ C, 0 ≤ c ∧ c ≤ 1000000 := by
  simp [okC, List.all_eq_true]
theorem okC_bad {C : List Int} {i : Nat} {x : Int} (hi : C[i]? = some x) (hx : ¬ (0 ≤ x ∧ x ≤ 1000000)) : okC C = false := by
  cases e : okC C with
  | false => rfl
  | true => exact absurd (((okC_iff C).mp e).2 x (List.mem_of_getElem? hi)) hx
/-- The sum of count times length, and whether each symbol that is counted has a length. -/
def hdot : List Int → List Int → Int
  | c :: C, l :: L => c * l + hdot C L
  | _, _ => 0
def hfit : List Int → List Int → Bool
  | c :: C, l :: L => decide (¬ (0 < c ∧ l = 0)) && hfit C L
  | _, _ => true
def hsize (C L : List Int) : Int := if C.length = L.length ∧ okH L = true ∧ okC C = true ∧ hfit C L = true then hdot C L else -1
theorem hdot_app : ∀ (A B X Y : List Int), A.length = B.length → hdot (A ++ X) (B ++ Y) = hdot A B + hdot X Y
  | [], [], X, Y, _ => by simp [hdot]
  | a :: A, b :: B, X, Y, h => by
    simp only [List.cons_append, hdot]
    rw [hdot_app A B X Y (by simpa using h)]
    omega
theorem hdot_take (C L : List Int) (k : Nat) (c l : Int) (hc : C[k]? = some c) (hl : L[k]? = some l) : hdot (C.take (k + 1)) (L.take (k + 1)) = hdot (C.take k) (L.take k) + c * l := by
  obtain ⟨h1, hc⟩ := List.getElem?_eq_some_iff.mp hc
  obtain ⟨h2, hl⟩ := List.getElem?_eq_some_iff.mp hl
  rw [List.take_succ_eq_append_getElem h1, List.take_succ_eq_append_getElem h2, hc, hl, hdot_app _ _ _ _ (by simp; omega)]
  simp [hdot]
theorem hfit_iff : ∀ (C L : List Int), C.length = L.length → (hfit C L = true ↔ ∀ (i : Nat) (c l : Int), C[i]? = some c → L[i]? = some l → ¬ (0 < c ∧ l = 0))
  | [], [], _ => by simp [hfit]
  | c :: C, l :: L, h => by
    have ih := hfit_iff C L (by simpa using h)
    simp only [hfit, Bool.and_eq_true, decide_eq_true_eq, ih]
    constructor
    · rintro ⟨h1, h2⟩ i c' l' e1 e2
      cases i with
      | zero => simp at e1 e2; subst e1 e2; exact h1
      | succ i => exact h2 i c' l' (by simpa using e1) (by simpa using e2)
    · intro h
      exact ⟨h 0 c l rfl rfl, fun i c' l' e1 e2 => h (i + 1) c' l' (by simpa using e1) (by simpa using e2)⟩
theorem hdot_bound : ∀ (C L : List Int) (n : Nat), C.length = n → L.length = n → (∀ c ∈ C, 0 ≤ c ∧ c ≤ 1000000) → (∀ l ∈ L, 0 ≤ l ∧ l ≤ 60) → 0 ≤ hdot C L ∧ hdot C L ≤ n * 60000000
  | [], _, n, h, _, _, _ => by simp at h; subst h; simp [hdot]
  | c :: C, [], n, h, h', _, _ => by simp at h h'; omega
  | c :: C, l :: L, n, h, h', hC, hL => by
    simp at h h'
    have ih := hdot_bound C L (n - 1) (by omega) (by omega) (fun x hx => hC x (by simp [hx])) (fun x hx => hL x (by simp [hx]))
    have h1 := hC c (by simp)
    have h2 := hL l (by simp)
    simp only [hdot]
    have h3 : 0 ≤ c * l := Int.mul_nonneg h1.1 h2.1
    have h4 : c * l ≤ 1000000 * 60 := Int.le_trans (Int.mul_le_mul_of_nonneg_right h1.2 h2.1) (Int.mul_le_mul_of_nonneg_left h2.2 (by omega))
    omega

/-- A sum over the indices below n. -/
def rs (f : Nat → Nat) : Nat → Nat
  | 0 => 0
  | n + 1 => rs f n + f n
theorem rs_congr {f g : Nat → Nat} {n : Nat} (h : ∀ j, j < n → f j = g j) : rs f n = rs g n := by
  induction n with
  | zero => rfl
  | succ n ih => rw [rs, rs, ih fun j hj => h j (by omega), h n (by omega)]
theorem rs_le {f g : Nat → Nat} {n : Nat} (h : ∀ j, j < n → f j ≤ g j) : rs f n ≤ rs g n := by
  induction n with
  | zero => exact Nat.le_refl _
  | succ n ih => have := ih fun j hj => h j (by omega); have := h n (by omega); rw [rs, rs]; omega
theorem rs_add (f g : Nat → Nat) (n : Nat) : rs (fun j => f j + g j) n = rs f n + rs g n := by
  induction n with
  | zero => rfl
  | succ n ih => rw [rs, rs, rs, ih]; omega
theorem rs_zero {f : Nat → Nat} {n : Nat} (h : ∀ j, j < n → f j = 0) : rs f n = 0 := by
  induction n with
  | zero => rfl
  | succ n ih => rw [rs, ih fun j hj => h j (by omega), h n (by omega)]
theorem rs_at (c : Nat) {i n : Nat} (h : i < n) : rs (fun j => if j = i then c else 0) n = c := by
  induction n with
  | zero => omega
  | succ n ih =>
    rw [rs]
    by_cases e : i = n
    · subst e
      rw [rs_zero fun j hj => if_neg (by omega), if_pos rfl]; omega
    · rw [ih (by omega), if_neg (by omega)]; omega
theorem rs_dvd {f : Nat → Nat} {n d : Nat} (h : ∀ j, j < n → d ∣ f j) : d ∣ rs f n := by
  induction n with
  | zero => exact Nat.dvd_zero d
  | succ n ih => rw [rs]; exact Nat.dvd_add (ih fun j hj => h j (by omega)) (h n (by omega))

/-- The length of symbol j. -/
def gl (L : List Int) (j : Nat) : Int := L.getD j 0
theorem gl_eq {L : List Int} {j : Nat} {x : Int} (h : L[j]? = some x) : gl L j = x := by simp [gl, h]
theorem gl_mem {L : List Int} {j : Nat} (h : j < L.length) : gl L j ∈ L := by
  rw [gl, List.getD_eq_getElem?_getD, List.getElem?_eq_getElem h]; exact List.getElem_mem h
theorem gl_get {L : List Int} {j : Nat} (h : j < L.length) : L[j]? = some (gl L j) := by
  simp [gl, List.getElem?_eq_getElem h]
theorem gl_cons (x : Int) (L : List Int) (j : Nat) : gl (x :: L) (j + 1) = gl L j := by simp [gl]
theorem rs_shift (f : Nat → Nat) (n : Nat) : rs f (n + 1) = f 0 + rs (fun j => f (j + 1)) n := by
  induction n with
  | zero => simp [rs]
  | succ n ih => rw [rs, ih, rs]; omega
theorem hsum_rs (L : List Int) : hsum L = rs (fun j => hw (gl L j)) L.length := by
  induction L with
  | nil => rfl
  | cons l L ih =>
    rw [hsum, List.length_cons, rs_shift, ih]
    simp only [gl_cons]
    rfl

/-- Whether symbol j's code comes before those of length l from symbol i on. -/
def bef (L : List Int) (l : Int) (i j : Nat) : Prop := 0 < gl L j ∧ (gl L j < l ∨ gl L j = l ∧ j < i)
instance (L : List Int) (l : Int) (i j : Nat) : Decidable (bef L l i j) := by unfold bef; infer_instance
/-- The weights of all symbols whose codes come before. -/
def hpos (L : List Int) (l : Int) (i : Nat) : Nat := rs (fun j => if bef L l i j then hw (gl L j) else 0) L.length
theorem hpos_start (L : List Int) : hpos L 1 0 = 0 := rs_zero fun j _ => if_neg (by unfold bef; omega)
theorem hpos_row (L : List Int) (l : Int) : hpos L l L.length = hpos L (l + 1) 0 := by
  refine rs_congr fun j hj => ?_
  have : bef L l L.length j ↔ bef L (l + 1) 0 j := by unfold bef; omega
  simp only [this]
theorem hpos_succ (L : List Int) (l : Int) (i : Nat) (hl : 0 < l) (hi : i < L.length) : hpos L l (i + 1) = hpos L l i + (if gl L i = l then hw l else 0) := by
  have h1 : hpos L l (i + 1) = rs (fun j => (if bef L l i j then hw (gl L j) else 0) + (if j = i then (if gl L i = l then hw l else 0) else 0)) L.length := by
    refine rs_congr fun j _ => ?_
    by_cases e : j = i
    · subst e
      by_cases e2 : gl L j = l
      · rw [if_pos (show bef L l (j + 1) j by unfold bef; omega), if_neg (show ¬ bef L l j j by unfold bef; omega), if_pos rfl, if_pos e2, e2]; omega
      · have : bef L l (j + 1) j ↔ bef L l j j := by unfold bef; omega
        simp only [this, if_neg e2, if_true, Nat.add_zero]
    · have : bef L l (i + 1) j ↔ bef L l i j := by unfold bef; omega
      simp only [this, if_neg e, Nat.add_zero]
  rw [h1, rs_add, rs_at _ hi]
  rfl
theorem hpos_le (L : List Int) (l : Int) (i : Nat) : hpos L l i ≤ hsum L := by
  rw [hsum_rs]
  exact rs_le fun j _ => by split <;> omega
theorem hpos_mono (L : List Int) {l l' : Int} {i i' : Nat} (h : l < l' ∨ l = l' ∧ i ≤ i') : hpos L l i ≤ hpos L l' i' := by
  refine rs_le fun j _ => ?_
  by_cases e : bef L l i j
  · rw [if_pos e, if_pos (show bef L l' i' j by unfold bef at e ⊢; omega)]; exact Nat.le_refl _
  · rw [if_neg e]; exact Nat.zero_le _
theorem hpos_room (L : List Int) (i : Nat) (hi : i < L.length) (h : 0 < gl L i) : hpos L (gl L i) i + hw (gl L i) ≤ hsum L := by
  have h1 := hpos_succ L (gl L i) i h hi
  rw [if_pos rfl] at h1
  have h2 := hpos_le L (gl L i) (i + 1)
  omega
theorem hw_split {x l : Int} (hx : 0 < x) (h : x ≤ l) (h2 : l ≤ 60) : hw x = 2 ^ (l - x).toNat * hw l := by
  rw [hw_pos hx, hw_pos (by omega), ← Nat.pow_add]
  congr 1
  omega
theorem hpos_dvd (L : List Int) (l : Int) (i : Nat) (h2 : l ≤ 60) : hw l ∣ hpos L l i := by
  refine rs_dvd fun j _ => ?_
  by_cases e : bef L l i j
  · rw [if_pos e, hw_split e.1 (by unfold bef at e; omega) h2]; exact Nat.dvd_mul_left _ _
  · rw [if_neg e]; exact Nat.dvd_zero _

/-- The code of symbol i. -/
def hcode (L : List Int) (i : Nat) : Nat := hpos L (gl L i) i / hw (gl L i)
theorem hcode_mul (L : List Int) (i : Nat) (h2 : gl L i ≤ 60) : hcode L i * hw (gl L i) = hpos L (gl L i) i := Nat.div_mul_cancel (hpos_dvd L _ i h2)
theorem hcode_is {L : List Int} {i c : Nat} (h0 : 0 < gl L i) (h : c * hw (gl L i) = hpos L (gl L i) i) : c = hcode L i := by
  rw [hcode, ← h, Nat.mul_div_cancel _ (hw_ge h0)]
theorem hcode_lt {L : List Int} (ok : okH L = true) {i : Nat} (hi : i < L.length) (h0 : 0 < gl L i) : hcode L i < 2 ^ (gl L i).toNat := by
  have h2 := (okH_all ok _ (gl_mem hi)).2
  have h3 := hcode_mul L i h2
  have h4 := hpos_room L i hi h0
  have h5 := okH_sum ok
  have h6 : 2 ^ 60 = 2 ^ (gl L i).toNat * hw (gl L i) := by
    rw [hw_pos h0, ← Nat.pow_add]; congr 1; omega
  have h7 : (hcode L i + 1) * hw (gl L i) ≤ 2 ^ (gl L i).toNat * hw (gl L i) := by
    rw [Nat.add_mul, Nat.one_mul, h3, ← h6]; omega
  have := Nat.le_of_mul_le_mul_right h7 (hw_ge h0)
  omega
theorem hcode_apart {L : List Int} (ok : okH L = true) {i j : Nat} (hi : i < L.length) (hj : j < L.length) (hij : i ≠ j) (h0 : 0 < gl L i) (h : gl L i ≤ gl L j) : hcode L j / 2 ^ (gl L j - gl L i).toNat ≠ hcode L i := by
  intro e
  have hb := (okH_all ok _ (gl_mem hj)).2
  have hj0 : 0 < gl L j := by omega
  have h1 : hcode L j / 2 ^ (gl L j - gl L i).toNat = hpos L (gl L j) j / hw (gl L i) := by
    rw [hcode, Nat.div_div_eq_div_mul, Nat.mul_comm, ← hw_split h0 h hb]
  have h2 := hcode_mul L i (by omega)
  rw [h1] at e
  have hg := hw_ge h0
  have h3 : hpos L (gl L i) i ≤ hpos L (gl L j) j := by
    rw [← h2, ← e]; exact Nat.div_mul_le_self _ _
  have h4 : hpos L (gl L j) j < hpos L (gl L i) i + hw (gl L i) := by
    have := Nat.lt_div_mul_add (a := hpos L (gl L j) j) hg
    rw [e, h2] at this
    exact this
  rcases Classical.em (gl L i < gl L j ∨ i < j) with hc | hc
  · have h5 := hpos_succ L (gl L i) i h0 hi
    rw [if_pos rfl] at h5
    have h6 : hpos L (gl L i) (i + 1) ≤ hpos L (gl L j) j := hpos_mono L (by omega)
    omega
  · have h5 := hpos_succ L (gl L j) j hj0 hj
    rw [if_pos rfl] at h5
    have h6 : hpos L (gl L j) (j + 1) ≤ hpos L (gl L i) i := hpos_mono L (by omega)
    have := hw_ge hj0
    omega

/-- The codes that have been told before those of length l from symbol i on; and all. -/
def hout (L : List Int) (l : Int) (i : Nat) : List Int := (List.range L.length).map fun j => if bef L l i j then (hcode L j : Int) else 0
def hcodes (L : List Int) : List Int := (List.range L.length).map fun j => if 0 < gl L j then (hcode L j : Int) else 0
theorem hout_len (L : List Int) (l : Int) (i : Nat) : (hout L l i).length = L.length := by simp [hout]
theorem hcodes_len (L : List Int) : (hcodes L).length = L.length := by simp [hcodes]
theorem hcodes_get {L : List Int} {j : Nat} (h : j < L.length) : (hcodes L)[j]? = some (if 0 < gl L j then (hcode L j : Int) else 0) := by
  simp [hcodes, h]
theorem hout_start (L : List Int) : hout L 1 0 = List.replicate L.length 0 := by
  refine List.ext_getElem? fun j => ?_
  by_cases h : j < L.length
  · simp only [hout, List.getElem?_map, List.getElem?_range h, Option.map_some, List.getElem?_replicate, h, if_true]
    rw [if_neg (by unfold bef; omega)]
  · rw [List.getElem?_eq_none (by rw [hout_len]; omega), List.getElem?_eq_none (by simp; omega)]
theorem hout_row (L : List Int) (l : Int) : hout L l L.length = hout L (l + 1) 0 := by
  refine List.map_congr_left fun j hj => ?_
  have hj := List.mem_range.mp hj
  have : bef L l L.length j ↔ bef L (l + 1) 0 j := by unfold bef; omega
  simp only [this]
theorem hout_skip (L : List Int) (l : Int) (i : Nat) (h : gl L i ≠ l) : hout L l (i + 1) = hout L l i := by
  refine List.map_congr_left fun j _ => ?_
  have : bef L l (i + 1) j ↔ bef L l i j := by
    unfold bef
    by_cases e : j = i
    · subst e; omega
    · omega
  simp only [this]
theorem hout_set (L : List Int) (i : Nat) (h0 : 0 < gl L i) : hout L (gl L i) (i + 1) = (hout L (gl L i) i).set i (hcode L i) := by
  refine List.ext_getElem? fun j => ?_
  by_cases h : j < L.length
  · rw [List.getElem?_set]
    simp only [hout_len, hout, List.getElem?_map, List.getElem?_range h, Option.map_some]
    by_cases e : j = i
    · subst e
      rw [if_pos (show bef L (gl L j) (j + 1) j by unfold bef; omega)]
      simp [h]
    · rw [if_neg (show ¬ i = j by omega)]
      have : bef L (gl L i) (i + 1) j ↔ bef L (gl L i) i j := by unfold bef; omega
      simp only [this]
  · rw [List.getElem?_eq_none (by rw [hout_len]; omega), List.getElem?_eq_none (by rw [List.length_set, hout_len]; omega)]
theorem hout_end {L : List Int} (h : ∀ l ∈ L, l ≤ 60) : hout L 61 0 = hcodes L := by
  refine List.map_congr_left fun j hj => ?_
  have h2 := h _ (gl_mem (List.mem_range.mp hj))
  have : bef L 61 0 j ↔ 0 < gl L j := by unfold bef; omega
  simp only [this]

end Go.Proofs.Ytoehgcakfblblaa

/- Plain mathematics of bit vectors: the bits of a list of words, the words of a list of bits. Nothing of the program and nothing of the model stands here. -/
namespace Go.Proofs.Ytoehgcakfblblaa

/-- Bit i of a list of words. -/
def bitN (L : List Nat) (i : Nat) : Nat := L.getD (i / 64) 0 / 2 ^ (i % 64) % 2
/-- The first n bits of a list of words. -/
def bitsOf (n : Nat) (L : List Nat) : List Int := (List.range n).map fun i => (bitN L i : Int)
/-- The number whose binary digits, the least first, are a list. -/
def val : List Int → Nat
  | [] => 0
  | b :: bs => b.toNat + 2 * val bs
/-- The words of a list of bits. -/
def wordsOf (B : List Int) : List Nat := (List.range ((B.length + 63) / 64)).map fun j => val ((B.drop (64 * j)).take 64)
def IsBits (B : List Int) : Prop := ∀ b ∈ B, b = 0 ∨ b = 1

theorem bitN_lt (L : List Nat) (i : Nat) : bitN L i < 2 := Nat.mod_lt _ (by omega)
theorem bitsOf_len (n : Nat) (L : List Nat) : (bitsOf n L).length = n := by simp [bitsOf]
theorem bitsOf_get (n : Nat) (L : List Nat) (i : Nat) (h : i < n) : (bitsOf n L)[i]? = some (bitN L i : Int) := by simp [bitsOf, h]
theorem bitsOf_take (n k : Nat) (L : List Nat) (h : k ≤ n) : (bitsOf n L).take k = bitsOf k L := by
  apply List.ext_getElem?
  intro i
  rw [List.getElem?_take]
  by_cases hi : i < k
  · rw [if_pos hi, bitsOf_get _ _ _ (by omega), bitsOf_get _ _ _ hi]
  · rw [if_neg hi]
    simp [bitsOf, hi]
theorem bitsOf_succ (n : Nat) (L : List Nat) : bitsOf (n + 1) L = bitsOf n L ++ [(bitN L n : Int)] := by simp [bitsOf, List.range_succ]
theorem bitsOf_bits (n : Nat) (L : List Nat) : IsBits (bitsOf n L) := by
  intro b hb
  simp only [bitsOf, List.mem_map] at hb
  obtain ⟨i, _, rfl⟩ := hb
  have := bitN_lt L i
  omega

theorem val_append (xs ys : List Int) : val (xs ++ ys) = val xs + 2 ^ xs.length * val ys := by
  induction xs with
  | nil => simp [val]
  | cons b bs ih =>
    simp only [List.cons_append, val, ih, List.length_cons, Nat.pow_succ]
    rw [Nat.mul_add, Nat.mul_comm (2 ^ bs.length) 2, Nat.mul_assoc, Nat.add_assoc]
theorem val_lt (xs : List Int) (h : IsBits xs) : val xs < 2 ^ xs.length := by
  induction xs with
  | nil => simp [val]
  | cons b bs ih =>
    have h1 := ih fun b hb => h b (List.mem_cons_of_mem _ hb)
    have h2 := h b (List.mem_cons_self ..)
    simp only [val, List.length_cons, Nat.pow_succ]
    omega
theorem val_digits (x m : Nat) : val ((List.range m).map fun i => ((x / 2 ^ i % 2 : Nat) : Int)) = x % 2 ^ m := by
  induction m with
  | zero => simp [val, Nat.mod_one]
  | succ m ih =>
    rw [List.range_succ, List.map_append, val_append, ih]
    simp only [List.map_cons, List.map_nil, val, List.length_map, List.length_range, Int.toNat_natCast, Nat.mul_zero, Nat.add_zero]
    rw [Nat.pow_succ, Nat.mod_mul]

theorem wordsOf_len (B : List Int) : (wordsOf B).length = (B.length + 63) / 64 := by simp [wordsOf]
theorem wordsOf_get (B : List Int) (j : Nat) (h : j < (B.length + 63) / 64) : (wordsOf B)[j]? = some (val ((B.drop (64 * j)).take 64)) := by simp [wordsOf, h]
theorem wordsOf_nil : wordsOf [] = [] := by simp [wordsOf]

theorem IsBits.sub {B C : List Int} (h : IsBits B) (hs : ∀ b ∈ C, b ∈ B) : IsBits C := fun b hb => h b (hs b hb)
theorem IsBits.take {B : List Int} (h : IsBits B) (n : Nat) : IsBits (B.take n) := h.sub fun _ hb => List.mem_of_mem_take hb
theorem IsBits.drop {B : List Int} (h : IsBits B) (n : Nat) : IsBits (B.drop n) := h.sub fun _ hb => List.mem_of_mem_drop hb

theorem wordsOf_lt (B : List Int) (h : IsBits B) : ∀ x ∈ wordsOf B, x < 2 ^ 64 := by
  intro x hx
  simp only [wordsOf, List.mem_map] at hx
  obtain ⟨j, _, rfl⟩ := hx
  have h1 := val_lt _ ((h.drop (64 * j)).take 64)
  have h2 : ((B.drop (64 * j)).take 64).length ≤ 64 := List.length_take_le _ _
  exact Nat.lt_of_lt_of_le h1 (Nat.pow_le_pow_right (by omega) h2)

/-- The words once a bit more is there: a new word where one begins. -/
theorem wordsOf_snoc0 (B : List Int) (b : Int) (h : B.length % 64 = 0) : wordsOf (B ++ [b]) = wordsOf B ++ [b.toNat] := by
  have e : (B.length + 1 + 63) / 64 = (B.length + 63) / 64 + 1 := by omega
  have e2 : (B.length + 63) / 64 = B.length / 64 := by omega
  unfold wordsOf
  rw [List.length_append, List.length_singleton, e, List.range_succ, List.map_append]
  congr 1
  · apply List.map_congr_left
    intro j hj
    rw [List.mem_range, e2] at hj
    rw [List.drop_append_of_le_length (by omega), List.take_append_of_le_length (by rw [List.length_drop]; omega)]
  · simp only [List.map_cons, List.map_nil]
    rw [e2, show 64 * (B.length / 64) = B.length by omega, List.drop_left]
    simp [val]
/-- .. and the last word's next digit where none begins. -/
theorem wordsOf_snoc (B : List Int) (b : Int) (h : B.length % 64 ≠ 0) :
    wordsOf (B ++ [b]) = (wordsOf B).set (B.length / 64) ((wordsOf B).getD (B.length / 64) 0 + 2 ^ (B.length % 64) * b.toNat) := by
  have e : (B.length + 1 + 63) / 64 = (B.length + 63) / 64 := by omega
  have hl : B.length / 64 < (B.length + 63) / 64 := by omega
  apply List.ext_getElem?
  intro j
  rw [List.getElem?_set]
  by_cases hj : j < (B.length + 63) / 64
  · rw [wordsOf_get _ _ (by rw [List.length_append, List.length_singleton, e]; exact hj)]
    by_cases hjl : B.length / 64 = j
    · subst hjl
      rw [if_pos rfl, if_pos (by rw [wordsOf_len]; exact hl)]
      have hd : ((B.drop (64 * (B.length / 64))).length) = B.length % 64 := by rw [List.length_drop]; omega
      rw [List.drop_append_of_le_length (by omega), List.take_of_length_le (by rw [List.length_append, hd]; simp; omega), val_append, hd]
      rw [List.getD_eq_getElem?_getD, wordsOf_get _ _ hl, Option.getD_some, List.take_of_length_le (by omega)]
      simp [val]
    · rw [if_neg hjl, wordsOf_get _ _ hj]
      rw [List.drop_append_of_le_length (by omega), List.take_append_of_le_length (by rw [List.length_drop]; omega)]
  · rw [if_neg (by omega)]
    rw [List.getElem?_eq_none (by rw [wordsOf_len, List.length_append, List.length_singleton]; omega), List.getElem?_eq_none (by rw [wordsOf_len]; omega)]

/-- The words of the first n bits of a list of words: each word, its last one cut. -/
theorem wordsOf_bitsOf_get (n : Nat) (L : List Nat) (j : Nat) (h : j < (n + 63) / 64) :
    (wordsOf (bitsOf n L))[j]? = some (L.getD j 0 % 2 ^ (min 64 (n - 64 * j))) := by
  rw [wordsOf_get _ _ (by rw [bitsOf_len]; exact h)]
  congr 1
  rw [← val_digits]
  congr 1
  apply List.ext_getElem?
  intro i
  rw [List.getElem?_take, List.getElem?_drop]
  by_cases hi : i < min 64 (n - 64 * j)
  · rw [if_pos (by omega), bitsOf_get _ _ _ (by omega)]
    have e1 : (64 * j + i) / 64 = j := by omega
    have e2 : (64 * j + i) % 64 = i := by omega
    simp [bitN, e1, e2, hi]
  · have hr : ((List.range (min 64 (n - 64 * j))).map fun i => ((L.getD j 0 / 2 ^ i % 2 : Nat) : Int))[i]? = none := List.getElem?_eq_none (by rw [List.length_map, List.length_range]; omega)
    rw [hr]
    by_cases h64 : i < 64
    · rw [if_pos h64, List.getElem?_eq_none (by rw [bitsOf_len]; omega)]
    · rw [if_neg h64]

/-- The bits after the last one are 0: by the word, as the program asks it. -/
def tailB (n : Nat) (L : List Nat) : Bool := n % 64 == 0 || L.getD (n / 64) 0 / 2 ^ (n % 64) == 0
theorem words_back (n : Nat) (L : List Nat) (hl : L.length = (n + 63) / 64) (hw : ∀ x ∈ L, x < 2 ^ 64) : wordsOf (bitsOf n L) = L ↔ tailB n L = true := by
  have hget : ∀ j, j < L.length → L[j]? = some (L.getD j 0) := fun j hj => by
    rw [List.getD_eq_getElem?_getD, List.getElem?_eq_getElem hj, Option.getD_some]
  have hlt : ∀ j, j < L.length → L.getD j 0 < 2 ^ 64 := fun j hj => by
    rw [List.getD_eq_getElem?_getD, List.getElem?_eq_getElem hj, Option.getD_some]
    exact hw _ (List.getElem_mem hj)
  unfold tailB
  rw [Bool.or_eq_true, beq_iff_eq, beq_iff_eq]
  constructor
  · intro h
    by_cases h0 : n % 64 = 0
    · exact .inl h0
    · right
      have h1 := wordsOf_bitsOf_get n L (n / 64) (by omega)
      rw [h, hget _ (by omega)] at h1
      have h2 := Option.some.inj h1
      rw [show min 64 (n - 64 * (n / 64)) = n % 64 by omega] at h2
      rw [Nat.div_eq_zero_iff]
      right
      rw [h2]
      exact Nat.mod_lt _ (Nat.two_pow_pos _)
  · intro h
    apply List.ext_getElem?
    intro j
    by_cases hj : j < (n + 63) / 64
    · rw [wordsOf_bitsOf_get _ _ _ hj, hget _ (by omega)]
      congr 1
      apply Nat.mod_eq_of_lt
      have hb := hlt j (by omega)
      by_cases hf : 64 ≤ n - 64 * j
      · rw [Nat.min_eq_left hf]; exact hb
      · have hjn : j = n / 64 := by omega
        subst hjn
        rw [show min 64 (n - 64 * (n / 64)) = n % 64 by omega]
        rcases h with h | h
        · omega
        · rw [Nat.div_eq_zero_iff] at h
          rcases h with h | h
          · have := Nat.two_pow_pos (n % 64); omega
          · exact h
    · rw [List.getElem?_eq_none (by rw [wordsOf_len, bitsOf_len]; omega), List.getElem?_eq_none (by omega)]

/-- Which pairs of a number and words are bit vectors. -/
def okB (N : Int) (L : List Nat) : Bool := decide (0 ≤ N ∧ N ≤ 5000 ∧ L.length = (N.toNat + 63) / 64) && tailB N.toNat L

end Go.Proofs.Ytoehgcakfblblaa
