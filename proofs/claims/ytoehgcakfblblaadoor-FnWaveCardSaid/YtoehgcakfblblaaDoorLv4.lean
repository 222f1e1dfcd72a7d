import Derived.Test.YtoehgcakfblblaaDoorWv2
import Derived.Deep.WholeRow
import Derived.StillTailTactics
import Derived.Test.YtoehgcakfblblaaDoorWvApp
import Derived.Test.YtoehgcakfblblaaDoorSel5
import Derived.Deep.RegionHeld3
/- The methods of the nine levels: how many are less, the k-th smallest. -/
namespace Go.Proofs.YtoehgcakfblblaaDoor
open Go.RowKit
set_option maxRecDepth 100000

theorem lessW_le (n : Nat) : ∀ (Ls : List (List Nat)) (x lo hi : Nat), lo ≤ hi → lessW n Ls x lo hi ≤ hi - lo
  | [], _, _, _, _ => Nat.zero_le _
  | L :: Ls, x, lo, hi, h => by
    have ih := lessW_le n Ls x _ _ (dn_mono n L (x / 2 ^ Ls.length % 2) h)
    have h0 := cnt_mono' L 0 h
    have h1 := cnt_mono' L 1 h
    have hs := cnt_sum L lo
    have hs' := cnt_sum L hi
    rw [lessW]
    rcases (show x / 2 ^ Ls.length % 2 = 0 ∨ x / 2 ^ Ls.length % 2 = 1 by omega) with e | e
    · rw [e] at ih ⊢
      have d0 : ∀ i, dn n L 0 i = cnt L 0 i := fun i => by unfold dn; rw [Nat.zero_mul, Nat.zero_add]; rfl
      rw [d0, d0] at *
      rw [if_neg (by omega)]
      omega
    · rw [e] at ih ⊢
      have d1 : ∀ i, dn n L 1 i = cnt L 0 n + cnt L 1 i := fun i => by unfold dn; rw [Nat.one_mul]; rfl
      rw [d1, d1] at *
      rw [if_pos rfl]
      omega

end Go.Proofs.YtoehgcakfblblaaDoor

/- matrixOf: which waves are valid, and the matrix of a valid one. -/
namespace Go.Proofs.YtoehgcakfblblaaDoor
open Go.RowKit
set_option maxRecDepth 100000

/-- One level of a valid wave. -/
def lvB (N : Int) (v : Int × List Nat) (z : Int) : Bool := decide (v.1 = N) && okB N v.2 && decide (z = (cnt v.2 0 N.toNat : Int))
/-- Which waves are valid. -/
def wvOk (N : Int) (Z : List Int) (V : List (Int × List Nat)) : Bool := decide (0 ≤ N ∧ N ≤ 1000 ∧ V.length = 9 ∧ Z.length = 9) && (List.range 9).all fun k => lvB N (V.getD k (0, [])) (Z.getD k 0)
theorem wvOk_iff (N : Int) (Z : List Int) (V : List (Int × List Nat)) : wvOk N Z V = true ↔ (0 ≤ N ∧ N ≤ 1000 ∧ V.length = 9 ∧ Z.length = 9) ∧ ∀ (k : Nat) v z, V[k]? = some v → Z[k]? = some z → lvB N v z = true := by
  unfold wvOk
  rw [Bool.and_eq_true, decide_eq_true_iff, List.all_eq_true]
  constructor
  · rintro ⟨h, ha⟩
    refine ⟨h, fun k v z hv hz => ?_⟩
    have hk := (List.getElem?_eq_some_iff.1 hv).1
    have := ha k (by simp; omega)
    rwa [List.getD_eq_getElem?_getD, List.getD_eq_getElem?_getD, hv, hz] at this
  · rintro ⟨h, ha⟩
    refine ⟨h, fun k hk => ?_⟩
    have hk9 : k < 9 := by simpa using hk
    have h1 : V[k]? = some (V[k]'(by omega)) := List.getElem?_eq_getElem (by omega)
    have h2 : Z[k]? = some (Z[k]'(by omega)) := List.getElem?_eq_getElem (by omega)
    rw [List.getD_eq_getElem?_getD, List.getD_eq_getElem?_getD, h1, h2]
    exact ha k _ _ h1 h2
theorem wvOk_head {N : Int} {Z : List Int} {V : List (Int × List Nat)} (h : ¬ (0 ≤ N ∧ N ≤ 1000 ∧ V.length = 9 ∧ Z.length = 9)) : wvOk N Z V = false := by
  cases e : wvOk N Z V
  · rfl
  · exact absurd ((wvOk_iff N Z V).1 e).1 h
theorem wvOk_no {N : Int} {Z : List Int} {V : List (Int × List Nat)} {k : Nat} {v : Int × List Nat} {z : Int} (hv : V[k]? = some v) (hz : Z[k]? = some z) (h : lvB N v z = false) : wvOk N Z V = false := by
  cases e : wvOk N Z V
  · rfl
  · have := ((wvOk_iff N Z V).1 e).2 k v z hv hz
    rw [h] at this
    cases this

/-- The cells of a matrix whose first k levels are there. -/
def lvCell (n : Nat) : Option LvA → Nat → Value
  | some _, 0 => .int .i64 n
  | some p, 1 => p.body
  | some p, _ => .int .i64 (cnt p.L 0 n)
  | none, 1 => .slice none 0 0
  | none, _ => .int .i64 0
def mcell (n : Nat) (P : List LvA) (k i : Nat) : Value := if i = 27 then .int .i64 n else lvCell n (if i / 3 < k then P[i / 3]? else none) (i % 3)
def mcs (n : Nat) (P : List LvA) (k : Nat) : Array Value := ((List.range 28).map (mcell n P k)).toArray
theorem mcs_size (n : Nat) (P : List LvA) (k : Nat) : (mcs n P k).size = 28 := by simp [mcs]
theorem mcs_get (n : Nat) (P : List LvA) (k i : Nat) (h : i < 28) : (mcs n P k)[i]? = some (mcell n P k i) := by
  unfold mcs
  rw [List.getElem?_toArray, List.getElem?_map, List.getElem?_range h]
  rfl
/-- The zero value of a matrix. -/
def zeroM : Array Value := #[Value.int IntKind.i64 0, Value.slice none 0 0, Value.int IntKind.i64 0, Value.int IntKind.i64 0, Value.slice none 0 0, Value.int IntKind.i64 0, Value.int IntKind.i64 0, Value.slice none 0 0, Value.int IntKind.i64 0, Value.int IntKind.i64 0, Value.slice none 0 0, Value.int IntKind.i64 0, Value.int IntKind.i64 0, Value.slice none 0 0, Value.int IntKind.i64 0, Value.int IntKind.i64 0, Value.slice none 0 0, Value.int IntKind.i64 0, Value.int IntKind.i64 0, Value.slice none 0 0, Value.int IntKind.i64 0, Value.int IntKind.i64 0, Value.slice none 0 0, Value.int IntKind.i64 0, Value.int IntKind.i64 0, Value.slice none 0 0, Value.int IntKind.i64 0, Value.int IntKind.i64 0]
theorem mcs_zero (n : Nat) (P : List LvA) : mcs n P 0 = (zeroM).setIfInBounds 27 (.int .i64 n) := by rfl
theorem mcs_put (n : Nat) (P : List LvA) (k : Nat) (p : LvA) (hp : P[k]? = some p) (hk : k < 9) :
    (((mcs n P k).setIfInBounds (k * 3) (.int .i64 n)).setIfInBounds (k * 3 + 1) p.body).setIfInBounds (k * 3 + 2) (.int .i64 (cnt p.L 0 n)) = mcs n P (k + 1) := by
  apply Array.ext_getElem?
  intro i
  rw [Array.getElem?_setIfInBounds, Array.getElem?_setIfInBounds, Array.getElem?_setIfInBounds]
  simp only [Array.size_setIfInBounds, mcs_size]
  by_cases hi : i < 28
  · rw [mcs_get _ _ _ _ hi, mcs_get _ _ _ _ hi]
    unfold mcell
    by_cases h27 : i = 27
    · rw [if_neg (by omega), if_neg (by omega), if_neg (by omega), if_pos h27, if_pos h27]
    · rw [if_neg h27, if_neg h27]
      by_cases e2 : k * 3 + 2 = i
      · rw [if_pos e2, if_pos (by omega), show i / 3 = k by omega, show i % 3 = 2 by omega, if_pos (by omega), hp]
        rfl
      · rw [if_neg e2]
        by_cases e1 : k * 3 + 1 = i
        · rw [if_pos e1, if_pos (by omega), show i / 3 = k by omega, show i % 3 = 1 by omega, if_pos (by omega), hp]
          rfl
        · rw [if_neg e1]
          by_cases e0 : k * 3 = i
          · rw [if_pos e0, if_pos (by omega), show i / 3 = k by omega, show i % 3 = 0 by omega, if_pos (by omega), hp]
            rfl
          · rw [if_neg e0]
            by_cases hlt : i / 3 < k
            · rw [if_pos hlt, if_pos (by omega)]
            · rw [if_neg hlt, if_neg (by omega)]
  · rw [if_neg (by omega), if_neg (by omega), if_neg (by omega), Array.getElem?_eq_none (by rw [mcs_size]; omega), Array.getElem?_eq_none (by rw [mcs_size]; omega)]
theorem mcs_one (n : Nat) (P : List LvA) (k : Nat) : (mcs n P k).all (·.oneCell') = true := by
  rw [Array.all_eq_true_iff_forall_mem]
  intro v hv
  obtain ⟨i, hi⟩ := Array.mem_iff_getElem?.1 hv
  have hi28 : i < 28 := by have := (Array.getElem?_eq_some_iff.1 hi).1; rwa [mcs_size] at this
  rw [mcs_get _ _ _ _ hi28] at hi
  obtain rfl := Option.some.inj hi
  unfold mcell
  split
  · rfl
  · generalize (if i / 3 < k then P[i / 3]? else none) = q
    generalize i % 3 = r
    unfold lvCell
    split <;> rfl

/-- The levels of a valid wave. -/
theorem wvOk_lev {N : Int} {Z : List Int} {P : List LvA} (h : wvOk N Z (P.map LvA.val) = true) {k : Nat} {p : LvA} (hp : P[k]? = some p) : p.K = N ∧ okB N p.L = true ∧ Z[k]? = some (cnt p.L 0 N.toNat : Int) := by
  obtain ⟨⟨h0, h1, h2, h3⟩, ha⟩ := (wvOk_iff _ _ _).1 h
  have hk := (List.getElem?_eq_some_iff.1 hp).1
  rw [List.length_map] at h2
  have hv : (P.map LvA.val)[k]? = some p.val := by rw [List.getElem?_map, hp]; rfl
  have hz : Z[k]? = some (Z[k]'(by omega)) := List.getElem?_eq_getElem (by omega)
  have := ha k _ _ hv hz
  unfold lvB at this
  rw [Bool.and_eq_true, Bool.and_eq_true, decide_eq_true_iff, decide_eq_true_iff] at this
  exact ⟨this.1.1, this.1.2, by rw [hz, this.2]⟩

/-- A wave as it lies. -/
structure WaA where
  N : Int
  ZA : Option Addr
  zc : Nat
  Z : List Int
  LA : Option Addr
  lc : Nat
  P : List LvA
abbrev WaA.value (a : WaA) : Value := .agg #[.int .i64 a.N, .slice a.ZA a.Z.length a.zc, .slice a.LA a.P.length a.lc]
def WaA.ok (a : WaA) : Bool := wvOk a.N a.Z (a.P.map LvA.val)
/-- The levels lie at A. -/
def LiesLv (w : World) (A : Option Addr) (P : List LvA) : Prop :=
  ∀ (j : Nat) (p : LvA), P[j]? = some p → (∃ b o, A = some ⟨b, o, none⟩ ∧ b < w.heap.size ∧ w.cell? ⟨b, o + j * 2, none⟩ = some (.int .i64 p.K) ∧ w.cell? ⟨b, o + j * 2 + 1, none⟩ = some p.body) ∧
    Lies w U p.A p.L ∧ (p.L.length ≤ p.c ∧ p.c ≤ 9223372036854775807) ∧ ∀ x ∈ p.L, x < 2 ^ 64
theorem LiesLv.below {w w' : World} {A : Option Addr} {P : List LvA} (h : LiesLv w A P) (hb : Below w.heap.size w w') : LiesLv w' A P := by
  intro j p hp
  obtain ⟨⟨b, o, h1, h2, h3, h4⟩, h5, h6, h7⟩ := h j p hp
  exact ⟨⟨b, o, h1, Nat.lt_of_lt_of_le h2 hb.size, (hb.cell (p := ⟨b, o + j * 2, none⟩) h2).trans h3, (hb.cell (p := ⟨b, o + j * 2 + 1, none⟩) h2).trans h4⟩, h5.below hb, h6, h7⟩
structure LiesWa (w : World) (a : WaA) : Prop where
  zer : Lies w I a.ZA a.Z
  lev : LiesLv w a.LA a.P
  znum : ∀ z ∈ a.Z, -9223372036854775808 ≤ z ∧ z ≤ 9223372036854775807
  size : a.Z.length ≤ 9223372036854775807 ∧ a.P.length ≤ 9223372036854775807
theorem LiesWa.below {w w' : World} {a : WaA} (h : LiesWa w a) (hb : Below w.heap.size w w') : LiesWa w' a := ⟨h.zer.below hb, h.lev.below hb, h.znum, h.size⟩

/-- What matrixOf hands back. -/
def WaA.cells (a : WaA) : Array Value := if a.ok = true then mcs a.N.toNat a.P 9 else zeroM

theorem Tryd.infoMtx : (Tryd.prog.info? 57).map (·.size) = some 28 := by kernel_rfl
theorem zeroM_one : (zeroM).all (·.oneCell') = true := by kernel_rfl
theorem WaA.cells_size (a : WaA) : a.cells.size = 28 := by
  unfold WaA.cells
  split
  · exact mcs_size _ _ _
  · rfl
theorem WaA.cells_one (a : WaA) : a.cells.all (·.oneCell') = true := by
  unfold WaA.cells
  split
  · exact mcs_one _ _ _
  · exact zeroM_one

/-- A block that holds the cells of a valid wave is its matrix. -/
theorem mtx_box {w : World} {g : Nat} {a : WaA} (hx : Box w g 57 a.cells) (hok : a.ok = true) (hL : LiesLv w a.LA a.P) : Mtx w g a.N.toNat a.P := by
  have hok2 := hok
  unfold WaA.ok at hok2
  obtain ⟨⟨h0, h1, h2, h3⟩, _⟩ := (wvOk_iff _ _ _).1 hok2
  rw [List.length_map] at h2
  unfold WaA.cells at hx
  rw [if_pos hok] at hx
  have hN : (a.N.toNat : Int) = a.N := Int.toNat_of_nonneg h0
  refine ⟨h2, fun k p hp => ?_, ?_, hx.lt, by omega⟩
  · have hk := (List.getElem?_eq_some_iff.1 hp).1
    obtain ⟨q1, q2, q3⟩ := wvOk_lev hok2 hp
    obtain ⟨_, l2, l3, l4⟩ := hL k p hp
    have g : ∀ r, r < 3 → w.cell? ⟨g, k * 3 + r, none⟩ = some (lvCell a.N.toNat (some p) r) := fun r hr => by
      rw [hx.cell, mcs_get _ _ _ _ (by omega), mcell, if_neg (by omega), show (k * 3 + r) / 3 = k by omega, show (k * 3 + r) % 3 = r by omega, if_pos (by omega), hp]
    exact ⟨⟨g 0 (by omega), g 1 (by omega), g 2 (by omega), hx.lt⟩, ⟨l2, l4, by rw [hN]; exact q2, l3⟩⟩
  · rw [hx.cell, mcs_get _ _ _ _ (by omega)]
    rfl

end Go.Proofs.YtoehgcakfblblaaDoor

/- A list of bit vectors that a call has made: the vectors in one block, the words of each in a block of its own (after FrsOwn). -/
namespace Go.Proofs.YtoehgcakfblblaaDoor
open Go.RowKit
set_option maxRecDepth 100000

/-- A frame in memory: its kind, and the slice of its bytes with what they hold. -/
structure LvV where
  K : Int
  A : Option Addr
  c : Nat
  xs : List Value
abbrev LvV.body (p : LvV) : Value := .slice p.A p.xs.length p.c

/-- The first frames of block g are Q; all lies between lo and hi. -/
structure LvIn (w : World) (lo hi g : Nat) (cs : Array Value) (Q : List LvV) : Prop where
  box : Box w g 46 cs
  low : lo ≤ g
  high : g < hi
  cells : ∀ (j : Nat) (p : LvV), Q[j]? = some p → cs[j * 2]? = some (.int .i64 p.K) ∧ cs[j * 2 + 1]? = some p.body
  own : ∀ (j : Nat) (p : LvV), Q[j]? = some p → w.ownsRow lo 64 1 p.body p.xs.length p.xs ∧ ∀ k, p.body.ownBlock = some k → k < hi
  apart : ∀ (i j : Nat) (p q : LvV) (k : Nat), i ≠ j → Q[i]? = some p → Q[j]? = some q → p.body.ownBlock = some k → q.body.ownBlock ≠ some k

/-- The block of owned bytes holds bytes. -/
theorem own_kindW {w : World} {base n : Nat} {v : Value} {xs : List Value} (h : w.ownsRow base 64 1 v n xs) {k : Nat} (hk : v.ownBlock = some k) : base ≤ k ∧ ∃ cur, w.heap[k]? = some (.cells cur 64 (0, 0)) := by
  rcases h.2 with ⟨h2, _⟩ | ⟨g, cap, cur, hv, hg, hh, r⟩
  · rw [h2] at hk
    cases hk
  · rw [hv] at hk
    injection hk with hk
    subst hk
    exact ⟨hg, cur, hh⟩
theorem own_ne_boxW {w : World} {base n : Nat} {v : Value} {xs : List Value} {g : Nat} {cs : Array Value} (h : w.ownsRow base 64 1 v n xs) (hx : Box w g 46 cs) : v.ownBlock ≠ some g := by
  intro e
  obtain ⟨_, cur, hh⟩ := own_kindW h e
  unfold Box at hx
  rw [hx] at hh
  injection hh with hh
  injection hh with _ e _
  cases e
section
variable {w w' : World} {lo hi g : Nat} {cs : Array Value} {Q : List LvV}
theorem LvIn.turn (h : LvIn w lo hi g cs Q) (hk : ∀ k, lo ≤ k → k < hi → w'.heap[k]? = w.heap[k]?) : LvIn w' lo hi g cs Q :=
  ⟨(hk g h.low h.high).trans h.box, h.low, h.high, h.cells, fun j p hp => ⟨own_turn4 (h.own j p hp).1 fun k e => hk k (own_kindW (h.own j p hp).1 e).1 ((h.own j p hp).2 k e), (h.own j p hp).2⟩, h.apart⟩
theorem LvIn.below (h : LvIn w lo hi g cs Q) {B : Nat} (hb : Below B w w') (hB : hi ≤ B) : LvIn w' lo hi g cs Q := h.turn fun k _ h2 => hb.block k (Nat.lt_of_lt_of_le h2 hB)
/-- One frame more, its bytes new. -/
theorem LvIn.snoc (h : LvIn w lo hi g cs Q) {K : Int} {A : Option Addr} {c : Nat} {xs : List Value} (hb : Below w.heap.size w w') (hhi : hi ≤ w.heap.size) (ho : w'.ownsRow w.heap.size 64 1 (.slice A xs.length c) xs.length xs) (hsz : Q.length * 2 + 1 < cs.size) :
    LvIn ((w'.setCell ⟨g, Q.length * 2, none⟩ (.int .i64 K)).setCell ⟨g, Q.length * 2 + 1, none⟩ (.slice A xs.length c)) lo w'.heap.size g ((cs.setIfInBounds (Q.length * 2) (.int .i64 K)).setIfInBounds (Q.length * 2 + 1) (.slice A xs.length c)) (Q ++ [⟨K, A, c, xs⟩]) := by
  have hx' : Box w' g 46 cs := h.box.below hb h.box.lt
  have hx2 := (hx'.put (Q.length * 2) (.int .i64 K))
  have hlow : lo ≤ w.heap.size := Nat.le_of_lt (Nat.lt_of_le_of_lt h.low h.box.lt)
  have ho' : w'.ownsRow lo 64 1 (.slice A xs.length c) xs.length xs := own_mono ho hlow
  have put : ∀ {v : Value} {n : Nat} {ys : List Value}, w'.ownsRow lo 64 1 v n ys → ((w'.setCell ⟨g, Q.length * 2, none⟩ (.int .i64 K)).setCell ⟨g, Q.length * 2 + 1, none⟩ (.slice A xs.length c)).ownsRow lo 64 1 v n ys := fun {v n ys} hv =>
    own_turn4 hv fun k e => by
      have hne : k ≠ g := fun e2 => own_ne_boxW hv hx' (by rw [e, e2])
      rw [Below.heap_setCell _ ⟨g, Q.length * 2 + 1, none⟩ _ k hne, Below.heap_setCell _ ⟨g, Q.length * 2, none⟩ _ k hne]
  have old : ∀ (j : Nat) (p : LvV), Q[j]? = some p → w'.ownsRow lo 64 1 p.body p.xs.length p.xs := fun j p hp => own_turn4 (h.own j p hp).1 fun k e => hb.block k (Nat.lt_of_lt_of_le ((h.own j p hp).2 k e) hhi)
  have split : ∀ (j : Nat) (p : LvV), (Q ++ [⟨K, A, c, xs⟩])[j]? = some p → (j < Q.length ∧ Q[j]? = some p) ∨ (j = Q.length ∧ p = ⟨K, A, c, xs⟩) := fun j p hp => by
    rcases Nat.lt_or_ge j Q.length with hj | hj
    · rw [List.getElem?_append_left hj] at hp
      exact .inl ⟨hj, hp⟩
    · rw [List.getElem?_append_right hj] at hp
      have hj0 : j - Q.length = 0 := by
        rcases Nat.eq_zero_or_pos (j - Q.length) with h0 | h0
        · exact h0
        · rw [List.getElem?_eq_none (by simp; omega)] at hp
          cases hp
      rw [hj0] at hp
      exact .inr ⟨by omega, (Option.some.inj hp).symm⟩
  refine ⟨hx2.put _ _, h.low, Nat.lt_of_lt_of_le h.high (Nat.le_trans hhi hb.size), ?_, ?_, ?_⟩
  · intro j p hp
    rcases split j p hp with ⟨hj, hp⟩ | ⟨rfl, rfl⟩
    · obtain ⟨c1, c2⟩ := h.cells j p hp
      rw [Array.getElem?_setIfInBounds_ne (by omega), Array.getElem?_setIfInBounds_ne (by omega), Array.getElem?_setIfInBounds_ne (by omega), Array.getElem?_setIfInBounds_ne (by omega)]
      exact ⟨c1, c2⟩
    · refine ⟨?_, ?_⟩
      · rw [Array.getElem?_setIfInBounds_ne (by omega), Array.getElem?_setIfInBounds_self_of_lt (by omega)]
      · rw [Array.getElem?_setIfInBounds_self_of_lt (by simp; omega)]
  · intro j p hp
    rcases split j p hp with ⟨hj, hp⟩ | ⟨rfl, rfl⟩
    · exact ⟨put (old j p hp), fun k e => Nat.lt_of_lt_of_le ((h.own j p hp).2 k e) (Nat.le_trans hhi hb.size)⟩
    · exact ⟨put ho', fun k e => (ho'.lt k e).2⟩
  · intro i j p q k hij hp hq e1 e2
    have hnew : ∀ (j : Nat) (p : LvV), Q[j]? = some p → ∀ k, p.body.ownBlock = some k → (Value.slice A xs.length c).ownBlock ≠ some k := fun j p hp k e e' => by
      have := (ho.lt k e').1
      have := (h.own j p hp).2 k e
      omega
    rcases split i p hp with ⟨hi1, hp⟩ | ⟨rfl, rfl⟩
    · rcases split j q hq with ⟨hj1, hq⟩ | ⟨rfl, rfl⟩
      · exact h.apart i j p q k hij hp hq e1 e2
      · exact hnew i p hp k e1 e2
    · rcases split j q hq with ⟨hj1, hq⟩ | ⟨rfl, rfl⟩
      · exact hnew j q hq k e2 e1
      · exact hij rfl
end

end Go.Proofs.YtoehgcakfblblaaDoor

/- The laws' helpers on lists of bit vectors: their size, and a copy (after Frs3). -/
namespace Go.Proofs.YtoehgcakfblblaaDoor
open Go.RowKit
set_option maxRecDepth 100000

theorem Tryd.infoLv : (Tryd.prog.info? 46).map (fun i => (i.zero, i.size, i.bytes)) = some (some (.agg #[.int .i64 0, .slice none 0 0]), 2, 32) := by kernel_rfl
theorem make_lvs (n : Nat) (hn : n ≤ 1048576) (w : World) :
    (Instr.makeSlice 26 (.int .i64 (n : Int)) (.int .i64 (n : Int))).run Tryd.prog w = .ok (.slice (some ⟨w.heap.size, 0, none⟩) n n) (w.alloc (.cells (madeCells #[.int .i64 0, .slice none 0 0] (n * 2)) 46)) := by
  obtain ⟨i, hi, hzz⟩ := Option.map_eq_some_iff.1 Tryd.infoLv
  simp only [Prod.mk.injEq] at hzz
  obtain ⟨hz, hs, hb⟩ := hzz
  have hr := run_make (P := Tryd.prog) w 26 46 i _ Tryd.underlying26 hi hz .i64 .i64 n n (by omega) (Int.le_refl _) (by rw [hb]; omega) (by omega)
  simp only [Int.toNat_natCast, hs] at hr
  exact hr

/-- A list of frames lies at A (whatever the room of their bytes). -/
def LiesLw (w : World) (A : Option Addr) (P : List LvA) : Prop :=
  ∀ (j : Nat) (p : LvA), P[j]? = some p → (∃ b o, A = some ⟨b, o, none⟩ ∧ b < w.heap.size ∧ w.cell? ⟨b, o + j * 2, none⟩ = some (.int .i64 p.K) ∧ w.cell? ⟨b, o + j * 2 + 1, none⟩ = some (.slice p.A p.L.length p.c)) ∧
    Lies w U p.A p.L ∧ True ∧ ∀ x ∈ p.L, x < 2 ^ 64
theorem LiesLw.below {w w' : World} {A : Option Addr} {P : List LvA} (h : LiesLw w A P) (hb : Below w.heap.size w w') : LiesLw w' A P := by
  intro j p hp
  obtain ⟨⟨b, o, h1, h2, h3, h4⟩, h5, h6, h7⟩ := h j p hp
  exact ⟨⟨b, o, h1, Nat.lt_of_lt_of_le h2 hb.size, (hb.cell (p := ⟨b, o + j * 2, none⟩) h2).trans h3, (hb.cell (p := ⟨b, o + j * 2 + 1, none⟩) h2).trans h4⟩, h5.below hb, h6, h7⟩

/-- How many numbers and bytes a list of frames holds. -/
def totL : List LvA → Nat
  | [] => 0
  | p :: r => 1 + p.L.length + totL r
theorem totL_at {P : List LvA} {k : Nat} {p : LvA} (h : P[k]? = some p) : totL (P.drop k) = 1 + p.L.length + totL (P.drop (k + 1)) := by
  obtain ⟨hj, rfl⟩ := List.getElem?_eq_some_iff.1 h
  rw [List.drop_eq_getElem_cons hj, totL]

theorem totL_le : ∀ (P : List LvA), P.length ≤ totL P
  | [] => Nat.le_refl _
  | p :: r => by
    have := totL_le r
    simp only [List.length_cons, totL]
    omega
theorem totL_mem : ∀ {P : List LvA} {k : Nat} {p : LvA}, P[k]? = some p → p.L.length ≤ totL P
  | [], k, p, h => by simp at h
  | q :: r, 0, p, h => by
    have : q = p := by simpa using h
    subst this
    simp only [totL]
    omega
  | q :: r, k + 1, p, h => by
    have := totL_mem (P := r) (k := k) (p := p) (by simpa using h)
    simp only [totL]
    omega

/-- What szFrameS leaves of 1048576. -/
def szL (s n : Nat) : Int := if n ≤ s then (s : Int) - (n : Int) else -1

/-- A new list of frames is returned. -/
def NewLvs (w : World) (V : List (Int × List Nat)) (e : Ending) (w' : World) : Prop :=
  ∃ (g d : Nat) (cs : Array Value) (Q : List LvV), e = .returned (.slice (some ⟨g, 0, none⟩) V.length d) ∧ LvIn w' w.heap.size w'.heap.size g cs Q ∧ Q.map (fun q => (q.K, q.xs)) = V.map (fun v => (v.1, v.2.map U)) ∧ Below w.heap.size w w'

end Go.Proofs.YtoehgcakfblblaaDoor

/- Lists of bit vectors: read as levels, compared (after Frs4). -/
namespace Go.Proofs.YtoehgcakfblblaaDoor
open Go.RowKit
set_option maxRecDepth 100000

/-- Frames with their bytes, as they lie. -/
def zipL (Q : List LvV) (V : List (Int × List Nat)) : List LvA := List.zipWith (fun q v => ⟨q.K, q.A, q.c, v.2⟩) Q V
theorem zipL_val : ∀ {Q : List LvV} {V : List (Int × List Nat)}, Q.map (fun q => (q.K, q.xs)) = V.map (fun v => (v.1, v.2.map U)) → (zipL Q V).map LvA.val = V
  | [], [], _ => rfl
  | [], _ :: _, h => by simp at h
  | _ :: _, [], h => by simp at h
  | q :: Q, v :: V, h => by
    simp only [List.map_cons, List.cons.injEq, Prod.mk.injEq] at h
    have ih := zipL_val (Q := Q) (V := V) h.2
    unfold zipL at ih ⊢
    rw [List.zipWith_cons_cons, List.map_cons, ih]
    simp [LvA.val, h.1.1]
theorem zipL_at {Q : List LvV} {V : List (Int × List Nat)} (hm : Q.map (fun q => (q.K, q.xs)) = V.map (fun v => (v.1, v.2.map U))) {j : Nat} {p : LvA} (h : (zipL Q V)[j]? = some p) :
    ∃ q v, Q[j]? = some q ∧ V[j]? = some v ∧ p = ⟨q.K, q.A, q.c, v.2⟩ ∧ q.K = v.1 ∧ q.xs = v.2.map U := by
  unfold zipL at h
  rw [List.getElem?_zipWith] at h
  cases hq : Q[j]? with
  | none => rw [hq] at h; cases h
  | some q =>
    cases hv : V[j]? with
    | none => rw [hq, hv] at h; cases h
    | some v =>
      rw [hq, hv] at h
      have h1 : (Q.map (fun q => (q.K, q.xs)))[j]? = some (q.K, q.xs) := by rw [List.getElem?_map, hq]; rfl
      rw [hm, List.getElem?_map, hv] at h1
      have h2 := Option.some.inj h1
      exact ⟨q, v, rfl, rfl, (Option.some.inj h).symm, (congrArg Prod.fst h2).symm, (congrArg Prod.snd h2).symm⟩

theorem LvIn.lies {w : World} {lo hi g : Nat} {cs : Array Value} {Q : List LvV} {V : List (Int × List Nat)} (h : LvIn w lo hi g cs Q) (hm : Q.map (fun q => (q.K, q.xs)) = V.map (fun v => (v.1, v.2.map U))) (hb : ∀ v ∈ V, ∀ x ∈ v.2, x < 2 ^ 64) :
    LiesLv w (some ⟨g, 0, none⟩) (zipL Q V) := by
  intro j p hp
  obtain ⟨q, v, hq, hv, rfl, hK, hx⟩ := zipL_at hm hp
  obtain ⟨c1, c2⟩ := h.cells j q hq
  obtain ⟨ho, _⟩ := h.own j q hq
  have hlen : q.xs.length = v.2.length := by rw [hx, List.length_map]
  unfold LvV.body at ho c2
  rw [hlen] at ho c2
  rw [hx] at ho
  refine ⟨⟨g, 0, rfl, h.box.lt, ?_, ?_⟩, Lies.of_own ho, own_cap ho, hb v (List.mem_of_getElem? hv)⟩
  · rw [Nat.zero_add]
    exact (h.box.cell _).trans c1
  · rw [Nat.zero_add]
    exact (h.box.cell _).trans c2

end Go.Proofs.YtoehgcakfblblaaDoor
