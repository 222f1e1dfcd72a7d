import Derived.Test.YtnlpmcgpdaifoaaDoorWv2
import Derived.Deep.WholeRow
import Derived.StillTailTactics
/- The methods of the nine levels: how many are less, the k-th smallest. -/
namespace Go.Proofs.YtnlpmcgpdaifoaaDoor
open Go.RowKit
set_option maxRecDepth 100000

theorem lessW_le (n : Nat) : ∀ (Ls : List (List Nat)) (x lo hi : Nat), lo ≤ hi → lessW n Ls x lo hi ≤ hi - lo
  | [], _, _, _, _ => Nat.zero_le _
  | L :: Ls, x, lo, hi, h => by
    have ih := lessW_le n Ls x _ _ (dn_mono n L (x / 2 ^ Ls.length % 2) h)
    have h0 := cnt_mono' L 0 h
    have h1 := cnt_mono' L 1 h
    have hs := cnt_sum L lo
    have hs' := cnt_sum L hi
    rw [lessW]
    rcases (show x / 2 ^ Ls.length % 2 = 0 ∨ x / 2 ^ Ls.length % 2 = 1 by omega) with e | e
    · rw [e] at ih ⊢
      have d0 : ∀ i, dn n L 0 i = cnt L 0 i := fun i => by unfold dn; rw [Nat.zero_mul, Nat.zero_add]; rfl
      rw [d0, d0] at *
      rw [if_neg (by omega)]
      omega
    · rw [e] at ih ⊢
      have d1 : ∀ i, dn n L 1 i = cnt L 0 n + cnt L 1 i := fun i => by unfold dn; rw [Nat.one_mul]; rfl
      rw [d1, d1] at *
      rw [if_pos rfl]
      omega

end Go.Proofs.YtnlpmcgpdaifoaaDoor

/- matrixOf: which waves are valid, and the matrix of a valid one. -/
namespace Go.Proofs.YtnlpmcgpdaifoaaDoor
open Go.RowKit
set_option maxRecDepth 100000

/-- One level of a valid wave. -/
def lvB (N : Int) (v : Int × List Nat) (z : Int) : Bool := decide (v.1 = N) && okB N v.2 && decide (z = (cnt v.2 0 N.toNat : Int))
/-- Which waves are valid. -/
def wvOk (N : Int) (Z : List Int) (V : List (Int × List Nat)) : Bool := decide (0 ≤ N ∧ N ≤ 1000 ∧ V.length = 9 ∧ Z.length = 9) && (List.range 9).all fun k => lvB N (V.getD k (0, [])) (Z.getD k 0)
theorem wvOk_iff (N : Int) (Z : List Int) (V : List (Int × List Nat)) : wvOk N Z V = true ↔ (0 ≤ N ∧ N ≤ 1000 ∧ V.length = 9 ∧ Z.length = 9) ∧ ∀ (k : Nat) v z, V[k]? = some v → Z[k]? = some z → lvB N v z = true := by
  unfold wvOk
  rw [Bool.and_eq_true, decide_eq_true_iff, List.all_eq_true]
  constructor
  · rintro ⟨h, ha⟩
    refine ⟨h, fun k v z hv hz => ?_⟩
    have hk := (List.getElem?_eq_some_iff.1 hv).1
    have := ha k (by simp; omega)
    rwa [List.getD_eq_getElem?_getD, List.getD_eq_getElem?_getD, hv, hz] at this
  · rintro ⟨h, ha⟩
    refine ⟨h, fun k hk => ?_⟩
    have hk9 : k < 9 := by simpa using hk
    have h1 : V[k]? = some (V[k]'(by omega)) := List.getElem?_eq_getElem (by omega)
    have h2 : Z[k]? = some (Z[k]'(by omega)) := List.getElem?_eq_getElem (by omega)
    rw [List.getD_eq_getElem?_getD, List.getD_eq_getElem?_getD, h1, h2]
    exact ha k _ _ h1 h2
theorem wvOk_head {N : Int} {Z : List Int} {V : List (Int × List Nat)} (h : ¬ (0 ≤ N ∧ N ≤ 1000 ∧ V.length = 9 ∧ Z.length = 9)) : wvOk N Z V = false := by
  cases e : wvOk N Z V
  · rfl
  · exact absurd ((wvOk_iff N Z V).1 e).1 h
theorem wvOk_no {N : Int} {Z : List Int} {V : List (Int × List Nat)} {k : Nat} {v : Int × List Nat} {z : Int} (hv : V[k]? = some v) (hz : Z[k]? = some z) (h : lvB N v z = false) : wvOk N Z V = false := by
  cases e : wvOk N Z V
  · rfl
  · have := ((wvOk_iff N Z V).1 e).2 k v z hv hz
    rw [h] at this
    cases this

/-- The cells of a matrix whose first k levels are there. -/
def lvCell (n : Nat) : Option LvA → Nat → Value
  | some _, 0 => .int .i64 n
  | some p, 1 => p.body
  | some p, _ => .int .i64 (cnt p.L 0 n)
  | none, 1 => .slice none 0 0
  | none, _ => .int .i64 0
def mcell (n : Nat) (P : List LvA) (k i : Nat) : Value := if i = 27 then .int .i64 n else lvCell n (if i / 3 < k then P[i / 3]? else none) (i % 3)
def mcs (n : Nat) (P : List LvA) (k : Nat) : Array Value := ((List.range 28).map (mcell n P k)).toArray
theorem mcs_size (n : Nat) (P : List LvA) (k : Nat) : (mcs n P k).size = 28 := by simp [mcs]
theorem mcs_get (n : Nat) (P : List LvA) (k i : Nat) (h : i < 28) : (mcs n P k)[i]? = some (mcell n P k i) := by
  unfold mcs
  rw [List.getElem?_toArray, List.getElem?_map, List.getElem?_range h]
  rfl
/-- The zero value of a matrix. -/
def zeroM : Array Value := #[Value.int IntKind.i64 0, Value.slice none 0 0, Value.int IntKind.i64 0, Value.int IntKind.i64 0, Value.slice none 0 0, Value.int IntKind.i64 0, Value.int IntKind.i64 0, Value.slice none 0 0, Value.int IntKind.i64 0, Value.int IntKind.i64 0, Value.slice none 0 0, Value.int IntKind.i64 0, Value.int IntKind.i64 0, Value.slice none 0 0, Value.int IntKind.i64 0, Value.int IntKind.i64 0, Value.slice none 0 0, Value.int IntKind.i64 0, Value.int IntKind.i64 0, Value.slice none 0 0, Value.int IntKind.i64 0, Value.int IntKind.i64 0, Value.slice none 0 0, Value.int IntKind.i64 0, Value.int IntKind.i64 0, Value.slice none 0 0, Value.int IntKind.i64 0, Value.int IntKind.i64 0]
theorem mcs_zero (n : Nat) (P : List LvA) : mcs n P 0 = (zeroM).setIfInBounds 27 (.int .i64 n) := by rfl
theorem mcs_put (n : Nat) (P : List LvA) (k : Nat) (p : LvA) (hp : P[k]? = some p) (hk : k < 9) :
    (((mcs n P k).setIfInBounds (k * 3) (.int .i64 n)).setIfInBounds (k * 3 + 1) p.body).setIfInBounds (k * 3 + 2) (.int .i64 (cnt p.L 0 n)) = mcs n P (k + 1) := by
  apply Array.ext_getElem?
  intro i
  rw [Array.getElem?_setIfInBounds, Array.getElem?_setIfInBounds, Array.getElem?_setIfInBounds]
  simp only [Array.size_setIfInBounds, mcs_size]
  by_cases hi : i < 28
  · rw [mcs_get _ _ _ _ hi, mcs_get _ _ _ _ hi]
    unfold mcell
    by_cases h27 : i = 27
    · rw [if_neg (by omega), if_neg (by omega), if_neg (by omega), if_pos h27, if_pos h27]
    · rw [if_neg h27, if_neg h27]
      by_cases e2 : k * 3 + 2 = i
      · rw [if_pos e2, if_pos (by omega), show i / 3 = k by omega, show i % 3 = 2 by omega, if_pos (by omega), hp]
        rfl
      · rw [if_neg e2]
        by_cases e1 : k * 3 + 1 = i
        · rw [if_pos e1, if_pos (by omega), show i / 3 = k by omega, show i % 3 = 1 by omega, if_pos (by omega), hp]
          rfl
        · rw [if_neg e1]
          by_cases e0 : k * 3 = i
          · rw [if_pos e0, if_pos (by omega), show i / 3 = k by omega, show i % 3 = 0 by omega, if_pos (by omega), hp]
            rfl
          · rw [if_neg e0]
            by_cases hlt : i / 3 < k
            · rw [if_pos hlt, if_pos (by omega)]
            · rw [if_neg hlt, if_neg (by omega)]
  · rw [if_neg (by omega), if_neg (by omega), if_neg (by omega), Array.getElem?_eq_none (by rw [mcs_size]; omega), Array.getElem?_eq_none (by rw [mcs_size]; omega)]
theorem mcs_one (n : Nat) (P : List LvA) (k : Nat) : (mcs n P k).all (·.oneCell') = true := by
  rw [Array.all_eq_true_iff_forall_mem]
  intro v hv
  obtain ⟨i, hi⟩ := Array.mem_iff_getElem?.1 hv
  have hi28 : i < 28 := by have := (Array.getElem?_eq_some_iff.1 hi).1; rwa [mcs_size] at this
  rw [mcs_get _ _ _ _ hi28] at hi
  obtain rfl := Option.some.inj hi
  unfold mcell
  split
  · rfl
  · generalize (if i / 3 < k then P[i / 3]? else none) = q
    generalize i % 3 = r
    unfold lvCell
    split <;> rfl

/-- The levels of a valid wave. -/
theorem wvOk_lev {N : Int} {Z : List Int} {P : List LvA} (h : wvOk N Z (P.map LvA.val) = true) {k : Nat} {p : LvA} (hp : P[k]? = some p) : p.K = N ∧ okB N p.L = true ∧ Z[k]? = some (cnt p.L 0 N.toNat : Int) := by
  obtain ⟨⟨h0, h1, h2, h3⟩, ha⟩ := (wvOk_iff _ _ _).1 h
  have hk := (List.getElem?_eq_some_iff.1 hp).1
  rw [List.length_map] at h2
  have hv : (P.map LvA.val)[k]? = some p.val := by rw [List.getElem?_map, hp]; rfl
  have hz : Z[k]? = some (Z[k]'(by omega)) := List.getElem?_eq_getElem (by omega)
  have := ha k _ _ hv hz
  unfold lvB at this
  rw [Bool.and_eq_true, Bool.and_eq_true, decide_eq_true_iff, decide_eq_true_iff] at this
  exact ⟨this.1.1, this.1.2, by rw [hz, this.2]⟩

/-- A wave as it lies. -/
structure WaA where
  N : Int
  ZA : Option Addr
  zc : Nat
  Z : List Int
  LA : Option Addr
  lc : Nat
  P : List LvA
abbrev WaA.value (a : WaA) : Value := .agg #[.int .i64 a.N, .slice a.ZA a.Z.length a.zc, .slice a.LA a.P.length a.lc]
def WaA.ok (a : WaA) : Bool := wvOk a.N a.Z (a.P.map LvA.val)
/-- The levels lie at A. -/
def LiesLv (w : World) (A : Option Addr) (P : List LvA) : Prop :=
  ∀ (j : Nat) (p : LvA), P[j]? = some p → (∃ b o, A = some ⟨b, o, none⟩ ∧ b < w.heap.size ∧ w.cell? ⟨b, o + j * 2, none⟩ = some (.int .i64 p.K) ∧ w.cell? ⟨b, o + j * 2 + 1, none⟩ = some p.body) ∧
    Lies w U p.A p.L ∧ (p.L.length ≤ p.c ∧ p.c ≤ 9223372036854775807) ∧ ∀ x ∈ p.L, x < 2 ^ 64
theorem LiesLv.below {w w' : World} {A : Option Addr} {P : List LvA} (h : LiesLv w A P) (hb : Below w.heap.size w w') : LiesLv w' A P := by
  intro j p hp
  obtain ⟨⟨b, o, h1, h2, h3, h4⟩, h5, h6, h7⟩ := h j p hp
  exact ⟨⟨b, o, h1, Nat.lt_of_lt_of_le h2 hb.size, (hb.cell (p := ⟨b, o + j * 2, none⟩) h2).trans h3, (hb.cell (p := ⟨b, o + j * 2 + 1, none⟩) h2).trans h4⟩, h5.below hb, h6, h7⟩
structure LiesWa (w : World) (a : WaA) : Prop where
  zer : Lies w I a.ZA a.Z
  lev : LiesLv w a.LA a.P
  znum : ∀ z ∈ a.Z, -9223372036854775808 ≤ z ∧ z ≤ 9223372036854775807
  size : a.Z.length ≤ 9223372036854775807 ∧ a.P.length ≤ 9223372036854775807
theorem LiesWa.below {w w' : World} {a : WaA} (h : LiesWa w a) (hb : Below w.heap.size w w') : LiesWa w' a := ⟨h.zer.below hb, h.lev.below hb, h.znum, h.size⟩

/-- What matrixOf hands back. -/
def WaA.cells (a : WaA) : Array Value := if a.ok = true then mcs a.N.toNat a.P 9 else zeroM

theorem Tryd.infoMtx : (Tryd.prog.info? 64).map (·.size) = some 28 := by kernel_rfl
theorem zeroM_one : (zeroM).all (·.oneCell') = true := by kernel_rfl
theorem WaA.cells_size (a : WaA) : a.cells.size = 28 := by
  unfold WaA.cells
  split
  · exact mcs_size _ _ _
  · rfl
theorem WaA.cells_one (a : WaA) : a.cells.all (·.oneCell') = true := by
  unfold WaA.cells
  split
  · exact mcs_one _ _ _
  · exact zeroM_one

/-- A block that holds the cells of a valid wave is its matrix. -/
theorem mtx_box {w : World} {g : Nat} {a : WaA} (hx : Box w g 64 a.cells) (hok : a.ok = true) (hL : LiesLv w a.LA a.P) : Mtx w g a.N.toNat a.P := by
  have hok2 := hok
  unfold WaA.ok at hok2
  obtain ⟨⟨h0, h1, h2, h3⟩, _⟩ := (wvOk_iff _ _ _).1 hok2
  rw [List.length_map] at h2
  unfold WaA.cells at hx
  rw [if_pos hok] at hx
  have hN : (a.N.toNat : Int) = a.N := Int.toNat_of_nonneg h0
  refine ⟨h2, fun k p hp => ?_, ?_, hx.lt, by omega⟩
  · have hk := (List.getElem?_eq_some_iff.1 hp).1
    obtain ⟨q1, q2, q3⟩ := wvOk_lev hok2 hp
    obtain ⟨_, l2, l3, l4⟩ := hL k p hp
    have g : ∀ r, r < 3 → w.cell? ⟨g, k * 3 + r, none⟩ = some (lvCell a.N.toNat (some p) r) := fun r hr => by
      rw [hx.cell, mcs_get _ _ _ _ (by omega), mcell, if_neg (by omega), show (k * 3 + r) / 3 = k by omega, show (k * 3 + r) % 3 = r by omega, if_pos (by omega), hp]
    exact ⟨⟨g 0 (by omega), g 1 (by omega), g 2 (by omega), hx.lt⟩, ⟨l2, l4, by rw [hN]; exact q2, l3⟩⟩
  · rw [hx.cell, mcs_get _ _ _ _ (by omega)]
    rfl

end Go.Proofs.YtnlpmcgpdaifoaaDoor

/- What the functions of a wave answer, as functions of its numbers. Nothing of the program stands here. -/
namespace Go.Proofs.YtnlpmcgpdaifoaaDoor

/-- The words of the levels. -/
def wLs (V : List (Int × List Nat)) : List (List Nat) := V.map Prod.snd
theorem wLs_val (P : List LvA) : wLs (P.map LvA.val) = lvs P := by
  unfold wLs lvs
  rw [List.map_map]
  rfl
/-- The list of a wave, were it valid. -/
def wB (N : Int) (V : List (Int × List Nat)) : List Int := listW N.toNat (wLs V)
def wList (N : Int) (Z : List Int) (V : List (Int × List Nat)) : List Int := if wvOk N Z V = true then wB N V else []
def wAt (N : Int) (Z : List Int) (V : List (Int × List Nat)) (i : Int) : Int := if wvOk N Z V = true ∧ 0 ≤ i ∧ i < N then (numW N.toNat (wLs V) i.toNat : Int) else -1
def wRank (N : Int) (Z : List Int) (V : List (Int × List Nat)) (x i : Int) : Int := if wvOk N Z V = true ∧ 0 ≤ i ∧ i ≤ N then (rankL (wB N V) x i.toNat : Int) else -1
def wLess (N : Int) (Z : List Int) (V : List (Int × List Nat)) (x lo hi : Int) : Int := if wvOk N Z V = true ∧ 0 ≤ lo ∧ lo ≤ hi ∧ hi ≤ N then (lessL (wB N V) x lo.toNat hi.toNat : Int) else -1
def wKth (N : Int) (Z : List Int) (V : List (Int × List Nat)) (lo hi k : Int) : Int := if wvOk N Z V = true ∧ 0 ≤ lo ∧ lo ≤ hi ∧ hi ≤ N ∧ 0 ≤ k ∧ k < hi - lo then (kthW N.toNat (wLs V) lo.toNat hi.toNat k.toNat : Int) else -1

theorem wvOk_n {N : Int} {Z : List Int} {V : List (Int × List Nat)} (h : wvOk N Z V = true) : 0 ≤ N ∧ N ≤ 1000 := by
  have := ((wvOk_iff _ _ _).1 h).1
  omega
theorem wvOk_lvs {N : Int} {Z : List Int} {P : List LvA} (h : wvOk N Z (P.map LvA.val) = true) : (lvs P).length = 9 := by
  have := ((wvOk_iff _ _ _).1 h).1.2.2.1
  rw [lvs_len]
  simpa using this
theorem wB_len (N : Int) (V : List (Int × List Nat)) : (wB N V).length = N.toNat := listW_len _ _
theorem wList_len (N : Int) (Z : List Int) (V : List (Int × List Nat)) : (wList N Z V).length ≤ 1000 := by
  unfold wList
  split
  · rename_i h
    rw [wB_len]
    have := wvOk_n h
    omega
  · simp

section
variable (N : Int) (Z : List Int) (V : List (Int × List Nat))
theorem wAt_bad (i : Int) (h : wvOk N Z V = false) : wAt N Z V i = -1 := by unfold wAt; rw [if_neg (by rw [h]; simp)]
theorem wRank_bad (x i : Int) (h : wvOk N Z V = false) : wRank N Z V x i = -1 := by unfold wRank; rw [if_neg (by rw [h]; simp)]
theorem wLess_bad (x lo hi : Int) (h : wvOk N Z V = false) : wLess N Z V x lo hi = -1 := by unfold wLess; rw [if_neg (by rw [h]; simp)]
theorem wKth_bad (lo hi k : Int) (h : wvOk N Z V = false) : wKth N Z V lo hi k = -1 := by unfold wKth; rw [if_neg (by rw [h]; simp)]
theorem wAt_out (i : Int) (h : i < 0 ∨ N ≤ i) : wAt N Z V i = -1 := by unfold wAt; rw [if_neg (by omega)]
theorem wRank_out (x i : Int) (h : ¬ (0 ≤ i ∧ i ≤ N)) : wRank N Z V x i = -1 := by unfold wRank; rw [if_neg (fun e => h e.2)]
theorem wLess_out (x lo hi : Int) (h : ¬ (0 ≤ lo ∧ lo ≤ hi ∧ hi ≤ N)) : wLess N Z V x lo hi = -1 := by unfold wLess; rw [if_neg (fun e => h e.2)]
theorem wKth_out (lo hi k : Int) (h : ¬ (0 ≤ lo ∧ lo ≤ hi ∧ hi ≤ N ∧ 0 ≤ k ∧ k < hi - lo)) : wKth N Z V lo hi k = -1 := by unfold wKth; rw [if_neg (fun e => h e.2)]
end

section
variable (n : Nat) (Z : List Int) (P : List LvA)
theorem wAt_in (j : Nat) (h : wvOk n Z (P.map LvA.val) = true) (hj : j < n) : wAt n Z (P.map LvA.val) j = numW n (lvs P) j := by
  unfold wAt
  rw [if_pos ⟨h, by omega, by omega⟩, wLs_val]
  rfl
theorem wRank_in (x j : Nat) (h : wvOk n Z (P.map LvA.val) = true) (hx : x < 512) (hj : j ≤ n) : wRank n Z (P.map LvA.val) x j = (plW n (lvs P) x j : Int) - plW n (lvs P) x 0 := by
  have := rank_is (n := n) (wvOk_lvs h) x j hx hj
  unfold wRank
  rw [if_pos ⟨h, by omega, by omega⟩, wB, wLs_val]
  simp only [Int.toNat_natCast]
  omega
theorem wRank_zero (x : Int) (j : Nat) (h : wvOk n Z (P.map LvA.val) = true) (hx : x < 0 ∨ 511 < x) (hj : j ≤ n) : wRank n Z (P.map LvA.val) x j = 0 := by
  have := rank_out (n := n) (wvOk_lvs h) x j hx hj
  unfold wRank
  rw [if_pos ⟨h, by omega, by omega⟩, wB, wLs_val]
  simp only [Int.toNat_natCast]
  omega
theorem wLess_big (x : Int) (a b : Nat) (h : wvOk n Z (P.map LvA.val) = true) (hx : 512 ≤ x) (hab : a ≤ b) (hb : b ≤ n) : wLess n Z (P.map LvA.val) x a b = (b : Int) - (a : Int) := by
  have := less_big (n := n) (wvOk_lvs h) x a b hx hab hb
  unfold wLess
  rw [if_pos ⟨h, by omega, by omega, by omega⟩, wB, wLs_val]
  simp only [Int.toNat_natCast]
  omega
theorem wLess_in (x : Int) (a b : Nat) (h : wvOk n Z (P.map LvA.val) = true) (hx : x < 512) (hab : a ≤ b) (hb : b ≤ n) :
    ∃ y : Nat, y < 512 ∧ (y : Int) = (if x < 0 then 0 else x) ∧ wLess n Z (P.map LvA.val) x a b = lessW n (lvs P) y a b := by
  have e : wLess n Z (P.map LvA.val) x a b = (lessL (listW n (lvs P)) x a b : Int) := by
    unfold wLess
    rw [if_pos ⟨h, by omega, by omega, by omega⟩, wB, wLs_val]
    rfl
  rw [e]
  by_cases h0 : x < 0
  · refine ⟨0, by omega, by rw [if_pos h0]; rfl, ?_⟩
    rw [less_neg (n := n) (wvOk_lvs h) x a b (by omega) hab hb]
  · obtain ⟨y, rfl⟩ := Int.eq_ofNat_of_zero_le (show 0 ≤ x by omega)
    refine ⟨y, by omega, by rw [if_neg h0], ?_⟩
    rw [less_is (n := n) (wvOk_lvs h) y a b (by omega) hab hb]
theorem wKth_in (a b j : Nat) (h : wvOk n Z (P.map LvA.val) = true) (hj : a + j < b) (hb : b ≤ n) : wKth n Z (P.map LvA.val) a b j = kthW n (lvs P) a b j := by
  unfold wKth
  rw [if_pos ⟨h, by omega, by omega, by omega, by omega, by omega⟩, wLs_val]
  rfl
end

end Go.Proofs.YtnlpmcgpdaifoaaDoor
