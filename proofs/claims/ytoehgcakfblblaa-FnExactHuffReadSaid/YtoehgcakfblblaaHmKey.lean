import Derived.Test.YtoehgcakfblblaaHw1
import Derived.Maps.OwnSet
import Derived.DeepKeys4
import Derived.WalkKit
/- HuffRead: what digits are read as. Plain mathematics over HuffWrite's digits. -/
namespace Go.Proofs.Ytoehgcakfblblaa
open Go.RowKit
set_option maxRecDepth 100000

theorem hbits_take (c : Nat) : ∀ (k m : Nat), m ≤ k → (hbits c k).take m = hbits (c / 2 ^ (k - m)) m
  | k, 0, _ => by simp [hbits]
  | 0, m + 1, h => by omega
  | k + 1, m + 1, h => by
    have ih := hbits_take c k m (by omega)
    rw [hbits, List.take_succ_cons, ih, Nat.add_sub_add_right, hbits]
    congr 1
    unfold hbit
    rw [Nat.div_div_eq_div_mul, ← Nat.pow_add, Nat.sub_add_cancel (by omega)]

/-- The number that digits give after a. -/
def dvN : List Int → Nat → Nat
  | [], a => a
  | b :: B, a => dvN B (2 * a + b.toNat)
theorem dvN_snoc (A : List Int) (b : Int) (a : Nat) : dvN (A ++ [b]) a = 2 * dvN A a + b.toNat := by
  induction A generalizing a with
  | nil => rfl
  | cons x A ih => exact ih _
theorem dvN_hbits (c : Nat) : ∀ (k a : Nat), dvN (hbits c k) a = a * 2 ^ k + c % 2 ^ k
  | 0, a => by simp [hbits, dvN, Nat.mod_one]
  | k + 1, a => by
    rw [hbits, dvN, dvN_hbits c k, Nat.mod_pow_succ]
    have : (hbit c k).toNat = c / 2 ^ k % 2 := by unfold hbit; omega
    rw [this, Nat.pow_succ]
    generalize c / 2 ^ k % 2 = u
    generalize 2 ^ k = p
    rw [Nat.add_mul, Nat.mul_comm u p, Nat.mul_comm p 2, Nat.mul_comm 2 a, Nat.mul_assoc]
    omega
theorem dvN_div {B : List Int} (h : IsBits B) (x : Nat) : dvN B x / 2 ^ B.length = x := by
  induction B generalizing x with
  | nil => simp [dvN]
  | cons b B ih =>
    have hb := h b (by simp)
    rw [dvN, List.length_cons, Nat.pow_succ, ← Nat.div_div_eq_div_mul, ih (fun y hy => h y (by simp [hy]))]
    omega
theorem dvN_lt {B : List Int} (h : IsBits B) : dvN B 0 < 2 ^ B.length := by
  have h1 := dvN_div h 0
  exact (Nat.div_eq_zero_iff.mp h1).resolve_left (Nat.ne_of_gt (Nat.two_pow_pos _))
theorem hbits_dvN {B : List Int} (h : IsBits B) (a : Nat) : hbits (dvN B a) B.length = B := by
  induction B generalizing a with
  | nil => rfl
  | cons b B ih =>
    have hb := h b (by simp)
    have hB : IsBits B := fun y hy => h y (by simp [hy])
    rw [dvN, List.length_cons, hbits, ih hB]
    congr 1
    unfold hbit
    rw [dvN_div hB]
    omega

/-- The digits of a symbol. -/
def hc (L : List Int) (x : Int) : List Int := hbits (hcode L x.toNat) (gl L x.toNat).toNat
theorem hc_len (L : List Int) (x : Int) : (hc L x).length = (gl L x.toNat).toNat := hbits_len _ _
theorem hc_dv {L : List Int} (ok : okH L = true) {x : Int} (h : hsym L x = true) (a : Nat) : dvN (hc L x) a = a * 2 ^ (gl L x.toNat).toNat + hcode L x.toNat := by
  have h2 := hsym_len ok h
  rw [hc, dvN_hbits, Nat.mod_eq_of_lt (hcode_lt ok h2.2.2.1 h2.2.2.2.2)]
theorem code_pre_le {L : List Int} (ok : okH L = true) {x y : Int} (hx : hsym L x = true) (hy : hsym L y = true) {B : List Int} (h1 : hc L x <+: B) (h2 : hc L y <+: B) (hl : gl L x.toNat ≤ gl L y.toNat) : x = y := by
  have a := hsym_len ok hx
  have b := hsym_len ok hy
  have h3 : hc L x <+: hc L y := List.prefix_of_prefix_length_le h1 h2 (by rw [hc_len, hc_len]; omega)
  have h4 := List.prefix_iff_eq_take.mp h3
  rw [hc_len] at h4
  have h5 : hc L x = hbits (hcode L y.toNat / 2 ^ ((gl L y.toNat).toNat - (gl L x.toNat).toNat)) (gl L x.toNat).toNat := by
    rw [h4]; exact hbits_take _ _ _ (by omega)
  have h6 := hc_dv ok hx 0
  rw [h5, dvN_hbits, Nat.zero_mul, Nat.zero_add, Nat.zero_add] at h6
  have h7 := hcode_lt ok b.2.2.1 b.2.2.2.2
  have h8 : hcode L y.toNat / 2 ^ ((gl L y.toNat).toNat - (gl L x.toNat).toNat) < 2 ^ (gl L x.toNat).toNat := by
    rw [Nat.div_lt_iff_lt_mul (Nat.two_pow_pos _), ← Nat.pow_add]
    have : (gl L x.toNat).toNat + ((gl L y.toNat).toNat - (gl L x.toNat).toNat) = (gl L y.toNat).toNat := by omega
    rw [this]; exact h7
  rw [Nat.mod_eq_of_lt h8] at h6
  by_cases e : x.toNat = y.toNat
  · omega
  · have h9 := hcode_apart ok a.2.2.1 b.2.2.1 e a.2.2.2.2 hl
    have h10 : (gl L y.toNat - gl L x.toNat).toNat = (gl L y.toNat).toNat - (gl L x.toNat).toNat := by omega
    rw [h10] at h9
    exact absurd h6 h9
theorem code_pre {L : List Int} (ok : okH L = true) {x y : Int} (hx : hsym L x = true) (hy : hsym L y = true) {B : List Int} (h1 : hc L x <+: B) (h2 : hc L y <+: B) : x = y := by
  by_cases hl : gl L x.toNat ≤ gl L y.toNat
  · exact code_pre_le ok hx hy h1 h2 hl
  · exact (code_pre_le ok hy hx h2 h1 (by omega)).symm
theorem hwr_cons (L : List Int) (x : Int) (X : List Int) : hwr L (x :: X) = hc L x ++ hwr L X := rfl
theorem hc_pos {L : List Int} (ok : okH L = true) {x : Int} (h : hsym L x = true) : 1 ≤ (hc L x).length := by
  rw [hc_len]; exact (hsym_len ok h).1
theorem hwr_ext {L : List Int} (ok : okH L = true) : ∀ (X Y : List Int), (∀ x ∈ X, hsym L x = true) → (∀ x ∈ Y, hsym L x = true) → hwr L X <+: hwr L Y → ∃ E, Y = X ++ E
  | [], Y, _, _, _ => ⟨Y, rfl⟩
  | x :: X, [], hX, _, h => by
    have h1 := hc_pos ok (hX x (by simp))
    have h2 := h.length_le
    rw [hwr_cons, List.length_append] at h2
    simp only [hwr, List.length_nil] at h2
    omega
  | x :: X, y :: Y, hX, hY, h => by
    rw [hwr_cons, hwr_cons] at h
    have e : x = y := code_pre ok (hX x (by simp)) (hY y (by simp)) ((List.prefix_append _ _).trans h) (List.prefix_append _ _)
    subst e
    obtain ⟨E, hE⟩ := hwr_ext ok X Y (fun z hz => hX z (by simp [hz])) (fun z hz => hY z (by simp [hz])) ((List.prefix_append_right_inj _).mp h)
    exact ⟨E, by rw [hE]; rfl⟩
theorem hwr_inj {L : List Int} (ok : okH L = true) {X Y : List Int} (hX : ∀ x ∈ X, hsym L x = true) (hY : ∀ x ∈ Y, hsym L x = true) (h : hwr L X = hwr L Y) : X = Y := by
  obtain ⟨E, hE⟩ := hwr_ext ok X Y hX hY (h ▸ List.prefix_refl _)
  subst hE
  rw [hwr_app] at h
  have h1 : hwr L E = [] := by
    have := congrArg List.length h
    rw [List.length_append] at this
    exact List.eq_nil_of_length_eq_zero (by omega)
  have h2 := hwr_ge ok E fun x hx => hY x (by simp [hx])
  rw [h1] at h2
  rw [List.eq_nil_of_length_eq_zero (l := E) (by simpa using h2), List.append_nil]

/-- D is what the digits B say, n symbols. -/
def HrD (g : Bool) (L B : List Int) (n : Int) (D : List Int) : Prop := g = true ∧ okH L = true ∧ (∀ x ∈ D, hsym L x = true) ∧ hwr L D = B ∧ (D.length : Int) = n
attribute [local instance] Classical.propDecidable
noncomputable def hrL (g : Bool) (L B : List Int) (n : Int) : List Int := if h : ∃ D, HrD g L B n D then Classical.choose h else []
noncomputable def hrOk (g : Bool) (L B : List Int) (n : Int) : Bool := decide (∃ D, HrD g L B n D)
theorem hr_yes {g : Bool} {L B : List Int} {n : Int} {D : List Int} (h : HrD g L B n D) : hrL g L B n = D ∧ hrOk g L B n = true := by
  have he : ∃ D, HrD g L B n D := ⟨D, h⟩
  refine ⟨?_, by unfold hrOk; exact decide_eq_true he⟩
  unfold hrL
  rw [dif_pos he]
  have h2 := Classical.choose_spec he
  exact hwr_inj h.2.1 h2.2.2.1 h.2.2.1 (h2.2.2.2.1.trans h.2.2.2.1.symm)
theorem hr_no {g : Bool} {L B : List Int} {n : Int} (h : ∀ D, ¬ HrD g L B n D) : hrL g L B n = [] ∧ hrOk g L B n = false := by
  have he : ¬ ∃ D, HrD g L B n D := fun ⟨D, hD⟩ => h D hD
  refine ⟨?_, by unfold hrOk; exact decide_eq_false he⟩
  unfold hrL
  rw [dif_neg he]
theorem hrD_neg {g : Bool} {L B : List Int} {n : Int} (h : n < 0) (D : List Int) : ¬ HrD g L B n D := fun e => by have := e.2.2.2.2; omega
theorem hrD_g {L B : List Int} {n : Int} (D : List Int) : ¬ HrD false L B n D := fun e => by cases e.1
theorem hrD_ok {g : Bool} {L B : List Int} {n : Int} (h : okH L = false) (D : List Int) : ¬ HrD g L B n D := fun e => by have h2 := e.2.1; rw [h] at h2; cases h2

/-- The first k digits are those of the symbols D. -/
def HrI (L B : List Int) (k : Nat) (D : List Int) : Prop := k ≤ B.length ∧ (∀ x ∈ D, hsym L x = true) ∧ hwr L D = B.take k
theorem HrI.zero (L B : List Int) : HrI L B 0 [] := ⟨Nat.zero_le _, fun x hx => by simp at hx, by simp [hwr]⟩
theorem HrI.step {L B : List Int} {k : Nat} {D : List Int} (h : HrI L B k D) {x : Int} (hx : hsym L x = true) (hp : hc L x <+: B.drop k) : HrI L B (k + (gl L x.toNat).toNat) (D ++ [x]) := by
  have h1 := hp.length_le
  rw [hc_len, List.length_drop] at h1
  have h0 := h.1
  refine ⟨by omega, ?_, ?_⟩
  · intro y hy
    rcases List.mem_append.mp hy with hy | hy
    · exact h.2.1 y hy
    · rw [List.mem_singleton] at hy; subst hy; exact hx
  · have h2 := List.prefix_iff_eq_take.mp hp
    rw [hc_len] at h2
    rw [hwr_app, hwr_cons, h.2.2, List.take_add, ← h2]
    simp [hwr]
/-- What follows the symbols that were read. -/
theorem HrI.rest {L B : List Int} {k : Nat} {D : List Int} (ok : okH L = true) (h : HrI L B k D) {D2 : List Int} (h2 : ∀ x ∈ D2, hsym L x = true) (he : hwr L D2 = B) : ∃ E, D2 = D ++ E ∧ hwr L E = B.drop k := by
  obtain ⟨E, hE⟩ := hwr_ext ok D D2 h.2.1 h2 (by rw [h.2.2, he]; exact List.take_prefix _ _)
  refine ⟨E, hE, ?_⟩
  rw [hE, hwr_app, h.2.2] at he
  have h3 := List.take_append_drop k B
  exact List.append_cancel_left (he.trans h3.symm)
theorem HrI.stop {g : Bool} {L B : List Int} {k : Nat} {D : List Int} {n : Int} (h : HrI L B k D) (hk : k < B.length) (hno : ∀ x, hsym L x = true → ¬ hc L x <+: B.drop k) (D2 : List Int) : ¬ HrD g L B n D2 := by
  rintro ⟨_, ok, h2, he, _⟩
  obtain ⟨E, rfl, h3⟩ := h.rest ok h2 he
  cases E with
  | nil =>
    have := congrArg List.length h3
    rw [List.length_drop] at this
    simp [hwr] at this
    omega
  | cons x E =>
    refine hno x (h2 x (by simp)) ?_
    rw [← h3, hwr_cons]
    exact List.prefix_append _ _
theorem HrI.all {L B : List Int} {D : List Int} {n : Int} (ok : okH L = true) (h : HrI L B B.length D) (hn : (D.length : Int) = n) : HrD true L B n D := ⟨rfl, ok, h.2.1, by rw [h.2.2, List.take_length], hn⟩
theorem HrI.other {g : Bool} {L B : List Int} {D : List Int} {n : Int} (h : HrI L B B.length D) (hn : (D.length : Int) ≠ n) (D2 : List Int) : ¬ HrD g L B n D2 := by
  rintro ⟨_, ok, h2, he, hl⟩
  have : D2 = D := hwr_inj ok h2 h.2.1 (by rw [he, h.2.2, List.take_length])
  subst this
  exact hn hl
theorem HrI.size {L B : List Int} {k : Nat} {D : List Int} (ok : okH L = true) (h : HrI L B k D) : D.length ≤ k := by
  have h1 := hwr_ge ok D h.2.1
  rw [h.2.2, List.length_take] at h1
  omega

/-- Symbol s (as an index) has the digits that come next. -/
def HrM (L B : List Int) (k s : Nat) : Prop := 0 < gl L s ∧ hbits (hcode L s) (gl L s).toNat <+: B.drop k
theorem HrM.no0 {L B : List Int} {k s : Nat} (h : ¬ 0 < gl L s) : ¬ HrM L B k s := fun e => h e.1
theorem HrM.no1 {L B : List Int} {k s : Nat} (h : B.length < k + (gl L s).toNat) (hk : k ≤ B.length) : ¬ HrM L B k s := fun e => by
  have := e.2.length_le
  rw [hbits_len, List.length_drop] at this
  omega
theorem HrM.iff {L B : List Int} {k s m : Nat} (h0 : gl L s = (m : Int)) (h1 : 0 < m) {M S : List Int} (hM : hbits (hcode L s) m = M) (hS : (B.drop k).take m = S) : HrM L B k s ↔ M = S := by
  unfold HrM
  rw [h0, Int.toNat_natCast, hM, List.prefix_iff_eq_take, ← hM, hbits_len, hS, hM]
  exact ⟨fun e => e.2, fun e => ⟨by omega, e⟩⟩
theorem HrM.sym {L B : List Int} {k s : Nat} (hs : s < L.length) (h : HrM L B k s) : hsym L (s : Int) = true ∧ hc L (s : Int) <+: B.drop k := by
  refine ⟨?_, h.2⟩
  unfold hsym
  have := h.1
  exact decide_eq_true ⟨by omega, by omega, by rw [Int.toNat_natCast]; omega⟩
theorem HrM.none {L B : List Int} {k : Nat} (h : ∀ s < L.length, ¬ HrM L B k s) (ok : okH L = true) (x : Int) (hx : hsym L x = true) : ¬ hc L x <+: B.drop k := by
  have h2 := hsym_len ok hx
  exact fun e => h x.toNat h2.2.2.1 ⟨h2.2.2.2.2, e⟩
/-- The hit among the first j symbols. -/
def HrH (L B : List Int) (k j : Nat) (x : Int) : Prop := (x = -1 ∧ ∀ s < j, ¬ HrM L B k s) ∨ ∃ s, s < j ∧ x = (s : Int) ∧ HrM L B k s
theorem HrH.zero (L B : List Int) (k : Nat) : HrH L B k 0 (-1) := .inl ⟨rfl, fun s hs => by omega⟩
theorem HrH.skip {L B : List Int} {k j : Nat} {x : Int} (h : HrH L B k j x) (hm : ¬ HrM L B k j) : HrH L B k (j + 1) x := by
  rcases h with ⟨h1, h2⟩ | ⟨s, h1, h2⟩
  · refine .inl ⟨h1, fun s hs => ?_⟩
    by_cases e : s = j
    · subst e; exact hm
    · exact h2 s (by omega)
  · exact .inr ⟨s, by omega, h2⟩
theorem HrH.take {L B : List Int} {k j : Nat} {x : Int} (_ : HrH L B k j x) (hm : HrM L B k j) : HrH L B k (j + 1) (j : Int) := .inr ⟨j, by omega, rfl, hm⟩

end Go.Proofs.Ytoehgcakfblblaa

/- The program's map from codes to symbols: what a key reads as; the map as it lies. -/
namespace Go.Proofs.Ytoehgcakfblblaa
open Go.RowKit Go.Maps
set_option maxRecDepth 100000

theorem Try.codeType : Try.prog.keyType 90 = true := by kernel_rfl
theorem Try.codeCells : Try.prog.cellsOf 90 = 2 := by kernel_rfl
theorem Try.intCells : Try.prog.cellsOf 3 = 1 := by kernel_rfl
theorem Try.typesSize : Try.prog.types.size = (Try.prog.types.size - 1) + 1 := by kernel_rfl
theorem Try.typesCount : Try.prog.types.size = 164 := by kernel_rfl
theorem Try.codeWide : (match Try.prog.underlying 90 with | some (.array _ _) | some (.struct _) => true | _ => false) = true := by rw [Try.underlying90]
theorem Try.codeLaid : laidOutB Try.prog = true := by kernel_rfl
theorem Try.codeRow : (90 : TypeId) < Try.prog.types.size := of_decide_eq_true (by kernel_rfl)
theorem codeKeyed : Keyed Try.prog 90 := Keyed.of_law (deep_law_laid Try.codeLaid (m := 2) (by omega) Try.codeRow (by kernel_rfl) Try.codeWide)
theorem zeroInt (w : World) : (zeroValue 3).run Try.prog w = .ok (.int .i64 0) w := by kernel_rfl
theorem codeKey {a l : Int} (ha : (Lit.int .i64 a).wf = true) (hl : (Lit.int .i64 l).wf = true) : keyOf Try.prog 90 (.agg #[.int .i64 a, .int .i64 l]) = some (.string (keyBytes [.int .i64 a, .int .i64 l])) := by
  have hf : (Value.agg #[.int .i64 a, .int .i64 l]).formed Try.prog 90 = true := by simp [Value.formed, Try.underlying90, Try.codeCells]
  have hn := Try.typesSize
  have h1 : ∀ x : Int, (Lit.int .i64 x).wf = true → Try.prog.keyLits Try.prog.types.size 3 [.int .i64 x] = some [.int .i64 x] := fun x hx => by
    rw [hn]
    unfold Program.keyLits
    simp [Try.underlying3, hx]
  have h2 : Try.prog.keyLits (Try.prog.types.size + 1) 90 [.int .i64 a, .int .i64 l] = some [.int .i64 a, .int .i64 l] := by
    have h1a := h1 a ha
    have h1l := h1 l hl
    rw [Try.typesCount] at h1a h1l
    unfold Program.keyLits
    simp [Try.underlying90, Try.codeCells, Try.intCells, h1a, h1l]
  unfold keyOf
  rw [Try.underlying90]
  simp only [Try.codeType, hf, Bool.and_self, if_true]
  show (Try.prog.keyLits (Try.prog.types.size + 1) 90 [.int .i64 a, .int .i64 l]).map _ = _
  rw [h2]
  rfl

/-- Symbol s has the code (a, l). -/
def HasC (L : List Int) (s : Nat) (a l : Int) : Prop := 0 < gl L s ∧ (hcode L s : Int) = a ∧ gl L s = l
/-- Block b is a map of the first j symbols' codes. -/
def HMap (w : World) (b j : Nat) (L : List Int) : Prop :=
  ∃ D : DataW Unit, w.ownsMap Try.prog 90 (plainElem Try.prog 3) b j D ∧ IsMap D ∧
    ∀ (a l : Int) (kl : Lit), keyOf Try.prog 90 (.agg #[.int .i64 a, .int .i64 l]) = some kl →
      (∀ s < j, HasC L s a l → D.atKey kl (.lit (.int .i64 0)) = .lit (.int .i64 (s : Int)) ∧ has D kl = true) ∧ ((∀ s < j, ¬ HasC L s a l) → has D kl = false)
theorem HMap.made (w : World) (L : List Int) : HMap (w.alloc (.map #[] 0)) w.heap.size 0 L :=
  ⟨.map [], World.ownsMap_made _ _ _ _, isMap_empty, fun a l kl _ => ⟨fun s hs => by omega, fun _ => rfl⟩⟩
theorem HMap.drew {w : World} {b j : Nat} {L : List Int} (h : HMap w b j L) : HMap w.drew b j L := h
theorem HMap.below {w w' : World} {b j : Nat} {L : List Int} (h : HMap w b j L) (hb : Below w.heap.size w w') : HMap w' b j L := by
  obtain ⟨D, h1, h2⟩ := h
  obtain ⟨es, ck, e1, e2⟩ := h1
  exact ⟨D, ⟨es, ck, by rw [hb.block b (Array.getElem?_eq_some_iff.1 e1).1]; exact e1, e2⟩, h2⟩
/-- One more symbol, which has no code: nothing is stored. -/
theorem HMap.skip {w : World} {b j : Nat} {L : List Int} (h : HMap w b j L) (h0 : ¬ 0 < gl L j) : HMap w b (j + 1) L := by
  obtain ⟨D, h1, h2, h3⟩ := h
  refine ⟨D, h1.mono (by omega), h2, fun a l kl hk => ⟨fun s hs hc => ?_, fun hn => (h3 a l kl hk).2 fun s hs => hn s (by omega)⟩⟩
  by_cases e : s = j
  · subst e; exact absurd hc.1 h0
  · exact (h3 a l kl hk).1 s (by omega) hc
/-- One more symbol's code is stored: what the new datum says. -/
theorem HMap.put {w' : World} {b j : Nat} {L : List Int} (ok : okH L = true) (hj : j < L.length) (h0 : 0 < gl L j) {D : DataW Unit} (hm : IsMap D)
    (h3 : ∀ (a l : Int) (kl : Lit), keyOf Try.prog 90 (.agg #[.int .i64 a, .int .i64 l]) = some kl →
      (∀ s < j, HasC L s a l → D.atKey kl (.lit (.int .i64 0)) = .lit (.int .i64 (s : Int)) ∧ has D kl = true) ∧ ((∀ s < j, ¬ HasC L s a l) → has D kl = false))
    {kj : Lit} (hkj : keyOf Try.prog 90 (.agg #[.int .i64 (hcode L j : Int), .int .i64 (gl L j)]) = some kj)
    (hown : w'.ownsMap Try.prog 90 (plainElem Try.prog 3) b (j + 1) (D.put kj (.lit (.int .i64 (j : Int))))) : HMap w' b (j + 1) L := by
  refine ⟨_, hown, hm.put _ _, fun a l kl hk => ?_⟩
  by_cases e : kl = kj
  · subst e
    have e2 := codeKeyed.inj hk hkj
    injection e2 with e2
    have e3 : a = (hcode L j : Int) ∧ l = gl L j := by simpa using e2
    obtain ⟨rfl, rfl⟩ := e3
    refine ⟨fun s hs hc => ?_, fun hn => absurd ⟨h0, rfl, rfl⟩ (hn j (by omega))⟩
    have es : s = j := by
      apply Classical.byContradiction
      intro hne
      have h4 := hcode_apart ok (i := s) (j := j) (by omega) hj hne hc.1 (by rw [hc.2.2]; exact Int.le_refl _)
      rw [hc.2.2, Int.sub_self] at h4
      have h5 := hc.2.1
      exact h4 (by simp; omega)
    subst es
    exact ⟨atKey_put_same hm (codeKeyed.key hk) _ _, has_put_same hm (codeKeyed.key hk) _⟩
  · have hne : ¬ HasC L j a l := by
      rintro ⟨_, rfl, rfl⟩
      rw [hkj] at hk
      exact e (Option.some.inj hk).symm
    rw [atKey_put_other e, has_put_other e]
    refine ⟨fun s hs hc => ?_, fun hn => (h3 a l kl hk).2 fun s hs => hn s (by omega)⟩
    by_cases es : s = j
    · subst es; exact absurd hc hne
    · exact (h3 a l kl hk).1 s (by omega) hc

end Go.Proofs.Ytoehgcakfblblaa
