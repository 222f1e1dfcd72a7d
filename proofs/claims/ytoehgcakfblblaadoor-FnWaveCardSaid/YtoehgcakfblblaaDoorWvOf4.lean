import Derived.Test.YtoehgcakfblblaaDoorWvLaw1
import Derived.Test.YtoehgcakfblblaaDoorWvOf1
/- A list of bit vectors that grows by append (after Frs8). -/
namespace Go.Proofs.YtoehgcakfblblaaDoor
open Go.RowKit
set_option maxRecDepth 100000

/-- The cells of a list of frames. -/
def cellsV : List LvV → List Value
  | [] => []
  | q :: r => .int .i64 q.K :: q.body :: cellsV r
theorem cellsV_append (P Q : List LvV) : cellsV (P ++ Q) = cellsV P ++ cellsV Q := by
  induction P with
  | nil => rfl
  | cons p r ih => simp only [List.cons_append, cellsV, ih]
theorem cellsV_at : ∀ {Q : List LvV} {j : Nat} {p : LvV}, Q[j]? = some p → (cellsV Q)[j * 2]? = some (.int .i64 p.K) ∧ (cellsV Q)[j * 2 + 1]? = some p.body
  | [], _, _, h => by simp at h
  | q :: r, 0, p, h => by
    have : q = p := by simpa using h
    subst this
    exact ⟨rfl, rfl⟩
  | q :: r, j + 1, p, h => by
    have ih := cellsV_at (Q := r) (j := j) (p := p) (by simpa using h)
    rw [show (j + 1) * 2 = j * 2 + 1 + 1 by omega, show j * 2 + 1 + 1 + 1 = (j * 2 + 1) + 1 + 1 by omega, cellsV]
    simp only [List.getElem?_cons_succ]
    exact ih

/-- The list v of the call's own holds the frames Q, each with bytes of its own. -/
structure LvL (w : World) (lo : Nat) (v : Value) (Q : List LvV) : Prop where
  row : w.ownsRow lo 46 2 v Q.length (cellsV Q)
  own : ∀ (j : Nat) (p : LvV), Q[j]? = some p → w.ownsRow lo 64 1 p.body p.xs.length p.xs
  apart : ∀ (i j : Nat) (p q : LvV) (k : Nat), i ≠ j → Q[i]? = some p → Q[j]? = some q → p.body.ownBlock = some k → q.body.ownBlock ≠ some k

theorem rowV_kind {w : World} {base n : Nat} {v : Value} {xs : List Value} (h : w.ownsRow base 46 2 v n xs) {k : Nat} (hk : v.ownBlock = some k) : base ≤ k ∧ k < w.heap.size ∧ ∃ cur, w.heap[k]? = some (.cells cur 46 (0, 0)) := by
  rcases h.2 with ⟨h2, _⟩ | ⟨g, cap, cur, hv, hg, hh, r⟩
  · rw [h2] at hk
    cases hk
  · rw [hv] at hk
    injection hk with hk
    subst hk
    refine ⟨hg, ?_, cur, hh⟩
    exact (Array.getElem?_eq_some_iff.1 hh).1
theorem rowV_ne {w : World} {base base' n m : Nat} {v u : Value} {xs ys : List Value} (h : w.ownsRow base 46 2 v n xs) (h' : w.ownsRow base' 64 1 u m ys) {k : Nat} (hk : u.ownBlock = some k) : v.ownBlock ≠ some k := by
  intro e
  obtain ⟨_, _, cur, hh⟩ := rowV_kind h e
  obtain ⟨_, cur', hh'⟩ := own_kindW h' hk
  rw [hh] at hh'
  injection hh' with hh'
  injection hh' with _ e _
  cases e

section
variable {w w' : World} {lo : Nat} {v : Value} {Q : List LvV}
theorem LvL.nil (w : World) (lo : Nat) : LvL w lo (.slice none 0 0) [] := ⟨World.ownsRow_nil _ _ _ _, fun j p h => by simp at h, fun i j p q k _ h => by simp at h⟩
theorem LvL.turn (h : LvL w lo v Q) (hk : ∀ k, lo ≤ k → k < w.heap.size → w'.heap[k]? = w.heap[k]?) : LvL w' lo v Q := by
  refine ⟨?_, fun j p hp => own_turn4 (h.own j p hp) fun k e => hk k (own_kindW (h.own j p hp) e).1 ((h.own j p hp).lt k e).2, h.apart⟩
  exact own_turn4 h.row fun k e => hk k (rowV_kind h.row e).1 (rowV_kind h.row e).2.1
theorem LvL.below (h : LvL w lo v Q) {B : Nat} (hb : Below B w w') (hB : w.heap.size ≤ B) : LvL w' lo v Q := h.turn fun k _ h2 => hb.block k (Nat.lt_of_lt_of_le h2 hB)
/-- One frame more. -/
theorem LvL.add (h : LvL w lo v Q) {K : Int} {A : Option Addr} {c base : Nat} {xs : List Value} {v' : Value} (ho : w.ownsRow base 64 1 (.slice A xs.length c) xs.length xs) (hbase : lo ≤ base) (hnew : ∀ (j : Nat) (p : LvV), Q[j]? = some p → ∀ k, p.body.ownBlock = some k → k < base)
    (hrow : w'.ownsRow lo 46 2 v' (Q.length + 1) (cellsV Q ++ [.int .i64 K, .slice A xs.length c])) (hg : w.grownBy w' v.ownBlock) : LvL w' lo v' (Q ++ [⟨K, A, c, xs⟩]) := by
  have split : ∀ (j : Nat) (p : LvV), (Q ++ [⟨K, A, c, xs⟩])[j]? = some p → (j < Q.length ∧ Q[j]? = some p) ∨ (j = Q.length ∧ p = ⟨K, A, c, xs⟩) := fun j p hp => by
    rcases Nat.lt_or_ge j Q.length with hj | hj
    · rw [List.getElem?_append_left hj] at hp
      exact .inl ⟨hj, hp⟩
    · rw [List.getElem?_append_right hj] at hp
      have hj0 : j - Q.length = 0 := by
        rcases Nat.eq_zero_or_pos (j - Q.length) with h0 | h0
        · exact h0
        · rw [List.getElem?_eq_none (by simp; omega)] at hp
          cases hp
      rw [hj0] at hp
      exact .inr ⟨by omega, (Option.some.inj hp).symm⟩
  have keep : ∀ {u : Value} {n b : Nat} {ys : List Value}, w.ownsRow b 64 1 u n ys → w'.ownsRow b 64 1 u n ys := fun {u n b ys} hu =>
    own_turn4 hu fun k e => hg.block k (hu.lt k e).2 fun e2 => rowV_ne h.row hu e e2.symm
  refine ⟨?_, ?_, ?_⟩
  · rw [cellsV_append, List.length_append]
    exact hrow
  · intro j p hp
    rcases split j p hp with ⟨hj, hp⟩ | ⟨rfl, rfl⟩
    · exact keep (h.own j p hp)
    · exact keep (own_mono ho hbase)
  · intro i j p q k hij hp hq e1 e2
    have hne : ∀ (j : Nat) (p : LvV), Q[j]? = some p → ∀ k, p.body.ownBlock = some k → (Value.slice A xs.length c).ownBlock ≠ some k := fun j p hp k e e' => by
      have := (ho.lt k e').1
      have := hnew j p hp k e
      omega
    rcases split i p hp with ⟨hi1, hp1⟩ | ⟨rfl, rfl⟩
    · rcases split j q hq with ⟨hj1, hq1⟩ | ⟨rfl, rfl⟩
      · exact h.apart i j p q k hij hp1 hq1 e1 e2
      · exact hne i p hp1 k e1 e2
    · rcases split j q hq with ⟨hj1, hq1⟩ | ⟨rfl, rfl⟩
      · exact hne j q hq1 k e2 e1
      · exact hij rfl
/-- As frames in a block. -/
theorem LvL.block (h : LvL w lo v Q) (hQ : Q ≠ []) : ∃ g d cs, v = .slice (some ⟨g, 0, none⟩) Q.length d ∧ LvIn w lo w.heap.size g cs Q := by
  rcases h.row.2 with ⟨_, h0⟩ | ⟨g, cap, cur, hv, hg, hh, h1, h2, h3, h4⟩
  · exact absurd (List.length_eq_zero_iff.1 h0) hQ
  · refine ⟨g, cap, cur, hv, ⟨hh, hg, (Array.getElem?_eq_some_iff.1 hh).1, ?_, fun j p hp => ⟨h.own j p hp, fun k e => ((h.own j p hp).lt k e).2⟩, h.apart⟩⟩
    intro j p hp
    have hj : j < Q.length := (List.getElem?_eq_some_iff.1 hp).1
    obtain ⟨c1, c2⟩ := cellsV_at hp
    rw [← h4, List.getElem?_take, if_pos (by omega)] at c1 c2
    exact ⟨by rw [← Array.getElem?_toList]; exact c1, by rw [← Array.getElem?_toList]; exact c2⟩
theorem LvL.len (h : LvL w lo v Q) : ∃ A d, v = .slice A Q.length d := own_slice h.row
end

end Go.Proofs.YtoehgcakfblblaaDoor

/- The specification's wave while it is being made. -/
namespace Go.Proofs.YtoehgcakfblblaaDoor
open Go.RowKit
set_option maxRecDepth 100000

theorem LvL.off {w : World} {lo gb : Nat} {v : Value} {Q : List LvV} {cs : Array Value} (h : LvL w lo v Q) (hx : Box w gb 28 cs) (i : Nat) (u : Value) : LvL (w.setCell ⟨gb, i, none⟩ u) lo v Q :=
  ⟨own_turn4 h.row fun k e => Below.heap_setCell w ⟨gb, i, none⟩ u k fun e2 => by
    obtain ⟨_, _, cur, hh⟩ := rowV_kind h.row e
    exact tbox_apart (t := 46) (cs := cur) hh hx (by decide) e2,
  fun j p hp => setCell_own hx (by decide) (h.own j p hp) i u, h.apart⟩

/-- kz numbers of zeros and kl levels stand; all blocks of the levels lie below hi. -/
structure SoI (w W : World) (n : Nat) (X : List Int) (gb kz kl : Nat) (zv lv : Value) (hi : Nat) : Prop where
  below : Below w.heap.size w W
  gt : w.heap.size < gb
  res : Box W w.heap.size 28 #[.int .i64 0, .slice none 0 0, .slice none 0 0]
  box : Box W gb 28 #[.int .i64 n, zv, lv]
  zer : W.ownsRow w.heap.size 3 1 zv kz (((wzer X).take kz).map I)
  lev : ∃ Q, LvL W w.heap.size lv Q ∧ Q.map (fun q => (q.K, q.xs)) = ((wlev X).take kl).map (fun L => ((n : Int), L.map U)) ∧ ∀ (j : Nat) (p : LvV), Q[j]? = some p → ∀ k, p.body.ownBlock = some k → k < hi
section
variable {w W W' : World} {n : Nat} {X : List Int} {gb kz kl k hi : Nat} {zv lv : Value}
theorem SoI.more (h : SoI w W n X gb kz kl zv lv hi) (hb : Below W.heap.size W W') : SoI w W' n X gb kz kl zv lv hi := by
  obtain ⟨Q, h1, h2, h3⟩ := h.lev
  exact ⟨below_then h.below hb, h.gt, h.res.below hb h.res.lt, h.box.below hb h.box.lt, own_below h.zer hb (Nat.le_refl _), ⟨Q, h1.below hb (Nat.le_refl _), h2, h3⟩⟩
theorem SoI.lift (h : SoI w W n X gb kz kl zv lv hi) {hi' : Nat} (hh : hi ≤ hi') : SoI w W n X gb kz kl zv lv hi' := by
  obtain ⟨Q, h1, h2, h3⟩ := h.lev
  exact ⟨h.below, h.gt, h.res, h.box, h.zer, ⟨Q, h1, h2, fun j p hp k e => Nat.lt_of_lt_of_le (h3 j p hp k e) hh⟩⟩
theorem grown_past {B : Nat} {a b c : World} {row : Option Nat} (h : Below B a b) (hg : b.grownBy c row) (hr : ∀ k, row = some k → B ≤ k) (hs : B ≤ b.heap.size) : Below B a c :=
  h.trans ⟨hg.os, hg.tape, hg.output, hg.size, fun j hj => hg.block j (Nat.lt_of_lt_of_le hj hs) fun e => by have := hr j e.symm; omega⟩

theorem SoI.addLev (h : SoI w W n X gb kz k zv lv hi) {Q : List LvV} (hL : LvL W w.heap.size lv Q) (hm : Q.map (fun q => (q.K, q.xs)) = ((wlev X).take k).map (fun L => ((n : Int), L.map U))) (hold : ∀ (j : Nat) (p : LvV), Q[j]? = some p → ∀ k, p.body.ownBlock = some k → k < hi) (hk : k < 9)
    {Ab : Option Addr} {cb base : Nat} {v' : Value} (ho : W.ownsRow base 64 1 (.slice Ab (wordsOf (wrow X k)).length cb) (wordsOf (wrow X k)).length ((wordsOf (wrow X k)).map U)) (hb1 : w.heap.size ≤ base) (hb2 : hi ≤ base)
    (hrow : W'.ownsRow w.heap.size 46 2 v' (Q.length + 1) (cellsV Q ++ [.int .i64 n, .slice Ab (wordsOf (wrow X k)).length cb])) (hg : W.grownBy W' lv.ownBlock) :
    SoI w (W'.setCell ⟨gb, 2, none⟩ v') n X gb kz (k + 1) zv v' W'.heap.size ∧ (W'.frozen? ⟨gb, 2, none⟩ = false ∧ W'.cell? ⟨gb, 2, none⟩ = some lv ∧ W'.cell? ⟨gb, 1, none⟩ = some zv ∧ gb < W'.heap.size) ∧ ∀ (b m : Nat) (v : Value) (xs : List Value), W.ownsRow b 3 1 v m xs → (W'.setCell ⟨gb, 2, none⟩ v').ownsRow b 3 1 v m xs := by
  have hadd := hL.add (K := (n : Int)) (xs := (wordsOf (wrow X k)).map U) (by rw [List.length_map]; exact ho) hb1 (fun j p hp k e => Nat.lt_of_lt_of_le (hold j p hp k e) hb2) (by rw [List.length_map]; exact hrow) hg
  have hne : ∀ {g : Nat} {t : TypeId} {cs : Array Value}, Box W g t cs → t ≠ 46 → lv.ownBlock ≠ some g := fun {g t cs} hx hne e => by
    obtain ⟨_, _, cur, hh⟩ := rowV_kind hL.row e
    exact tbox_apart (t := 46) (cs := cur) (g := g) (g' := g) hh hx (fun e => hne e.symm) rfl
  have hx : Box W' gb 28 #[.int .i64 n, zv, lv] := h.box.grown hg (hne h.box (by decide))
  have hr : Box W' w.heap.size 28 #[.int .i64 0, .slice none 0 0, .slice none 0 0] := h.res.grown hg (hne h.res (by decide))
  have keep : ∀ {b m : Nat} {v : Value} {xs : List Value}, W.ownsRow b 3 1 v m xs → W'.ownsRow b 3 1 v m xs := fun {b m v xs} hv => own_turn4 hv fun j hj => hg.block j (own_typed hv hj).2.1 fun e => by
    obtain ⟨_, _, cur, hh⟩ := own_typed hv hj
    exact hne (g := j) (t := 3) (cs := cur) hh (by decide) e.symm
  have hgb : w.heap.size ≤ gb := Nat.le_of_lt h.gt
  refine ⟨⟨(grown_past h.below hg (fun k e => (rowV_kind hL.row e).1) h.below.size).setCell (p := ⟨gb, 2, none⟩) hgb _, h.gt, hr.off (p := ⟨gb, 2, none⟩) (show w.heap.size ≠ gb by have := h.gt; omega) _, hx.put 2 v', setCell_own hx (by decide) (keep h.zer) 2 v', ⟨_, hadd.off hx 2 v', ?_, ?_⟩⟩, ⟨hx.frozen 2, hx.cell 2, hx.cell 1, hx.lt⟩, fun b m v xs hv => setCell_own hx (by decide) (keep hv) 2 v'⟩
  · rw [List.map_append, hm, List.take_add_one, List.map_append, wlev_get X k hk]
    rfl
  · exact fun j p hp k e => (hadd.own j p hp).lt k e |>.2
theorem SoI.addZer (h : SoI w W n X gb k kl zv lv hi) (hk : k < 9) {z' : Value} (hrow : W'.ownsRow w.heap.size 3 1 z' (k + 1) (((wzer X).take k).map I ++ [I ((wlow (8 - k) (wX X k)).length : Int)])) (hg : W.grownBy W' zv.ownBlock) :
    SoI w (W'.setCell ⟨gb, 1, none⟩ z') n X gb (k + 1) kl z' lv hi ∧ (W'.frozen? ⟨gb, 1, none⟩ = false ∧ W'.cell? ⟨gb, 1, none⟩ = some zv ∧ gb < W'.heap.size) ∧ ∀ (b m : Nat) (v : Value) (xs : List Value), (∀ j, zv.ownBlock = some j → j < b) → W.ownsRow b 3 1 v m xs → (W'.setCell ⟨gb, 1, none⟩ z').ownsRow b 3 1 v m xs := by
  obtain ⟨Q, h1, h2, h3⟩ := h.lev
  have hne : ∀ {g : Nat} {t : TypeId} {cs : Array Value}, Box W g t cs → t ≠ 3 → zv.ownBlock ≠ some g := fun {g t cs} hx hne e => by
    obtain ⟨_, _, cur, hh⟩ := own_typed h.zer e
    exact tbox_apart (t := 3) (cs := cur) (g := g) (g' := g) hh hx (fun e => hne e.symm) rfl
  have hx : Box W' gb 28 #[.int .i64 n, zv, lv] := h.box.grown hg (hne h.box (by decide))
  have hr : Box W' w.heap.size 28 #[.int .i64 0, .slice none 0 0, .slice none 0 0] := h.res.grown hg (hne h.res (by decide))
  have hlv : LvL W' w.heap.size lv Q := ⟨own_turn4 h1.row fun j hj => hg.block j (rowV_kind h1.row hj).2.1 fun e => by
      obtain ⟨_, _, cur, hh⟩ := rowV_kind h1.row hj
      exact hne (g := j) (t := 46) (cs := cur) hh (by decide) e.symm,
    fun j p hp => own_turn4 (h1.own j p hp) fun i hi2 => hg.block i (own_typed (h1.own j p hp) hi2).2.1 fun e => by
      obtain ⟨_, _, cur, hh⟩ := own_typed (h1.own j p hp) hi2
      exact hne (g := i) (t := 64) (cs := cur) hh (by decide) e.symm, h1.apart⟩
  have hgb : w.heap.size ≤ gb := Nat.le_of_lt h.gt
  refine ⟨⟨(grown_past h.below hg (fun k e => (own_typed h.zer e).1) h.below.size).setCell (p := ⟨gb, 1, none⟩) hgb _, h.gt, hr.off (p := ⟨gb, 1, none⟩) (show w.heap.size ≠ gb by have := h.gt; omega) _, hx.put 1 z', setCell_own hx (by decide) ?_ 1 z', ⟨Q, hlv.off hx 1 z', h2, h3⟩⟩, ⟨hx.frozen 1, hx.cell 1, hx.lt⟩, fun b m v xs hlt hv => setCell_own hx (by decide) (own_turn4 hv fun j hj => hg.block j (own_typed hv hj).2.1 fun e => ?_) 1 z'⟩
  · rw [List.take_add_one, List.map_append, wzer_get X k hk]
    exact hrow
  · have := hlt j e.symm
    have := (own_typed hv hj).1
    omega
/-- A row of numbers that is no part of it is written to. -/
theorem SoI.beside (h : SoI w W n X gb kz kl zv lv hi) {u : Value} {b m : Nat} {xs : List Value} (hu : W.ownsRow b 3 1 u m xs) (hb : w.heap.size ≤ b) (hg : W.grownBy W' u.ownBlock) (hne : ∀ j, zv.ownBlock = some j → u.ownBlock ≠ some j) : SoI w W' n X gb kz kl zv lv hi := by
  obtain ⟨Q, h1, h2, h3⟩ := h.lev
  have hnt : ∀ {g : Nat} {t : TypeId} {cs : Array Value}, Box W g t cs → t ≠ 3 → u.ownBlock ≠ some g := fun {g t cs} hx hne e => by
    obtain ⟨_, _, cur, hh⟩ := own_typed hu e
    exact tbox_apart (t := 3) (cs := cur) (g := g) (g' := g) hh hx (fun e => hne e.symm) rfl
  refine ⟨grown_past h.below hg (fun k e => Nat.le_trans hb (own_typed hu e).1) h.below.size, h.gt, h.res.grown hg (hnt h.res (by decide)), h.box.grown hg (hnt h.box (by decide)), own_turn4 h.zer fun j hj => hg.block j (own_typed h.zer hj).2.1 fun e => hne j hj e.symm, ⟨Q, ⟨?_, ?_, h1.apart⟩, h2, h3⟩⟩
  · exact own_turn4 h1.row fun j hj => hg.block j (rowV_kind h1.row hj).2.1 fun e => by
      obtain ⟨_, _, cur, hh⟩ := rowV_kind h1.row hj
      exact hnt (g := j) (t := 46) (cs := cur) hh (by decide) e.symm
  · exact fun j p hp => own_turn4 (h1.own j p hp) fun i hi2 => hg.block i (own_typed (h1.own j p hp) hi2).2.1 fun e => by
      obtain ⟨_, _, cur, hh⟩ := own_typed (h1.own j p hp) hi2
      exact hnt (g := i) (t := 64) (cs := cur) hh (by decide) e.symm
/-- The wave that has been made. -/
theorem SoI.wave (h : SoI w W n X gb 9 9 zv lv hi) (hn : X.length = n) :
    WvO (((W.setCell ⟨w.heap.size, 0, none⟩ (.int .i64 n)).setCell ⟨w.heap.size, 1, none⟩ zv).setCell ⟨w.heap.size, 2, none⟩ lv) w.heap.size (((W.setCell ⟨w.heap.size, 0, none⟩ (.int .i64 n)).setCell ⟨w.heap.size, 1, none⟩ zv).setCell ⟨w.heap.size, 2, none⟩ lv).heap.size n (wzer X) (levV X) (.agg #[.int .i64 n, zv, lv]) ∧ Below w.heap.size w (((W.setCell ⟨w.heap.size, 0, none⟩ (.int .i64 n)).setCell ⟨w.heap.size, 1, none⟩ zv).setCell ⟨w.heap.size, 2, none⟩ lv) := by
  obtain ⟨Q, h1, h2, h3⟩ := h.lev
  have hz := h.zer
  rw [List.take_of_length_le (by rw [wzer_len]; exact Nat.le_refl _)] at hz
  rw [List.take_of_length_le (by rw [wlev_len]; exact Nat.le_refl _)] at h2
  have hQl : Q.length = 9 := by
    have := congrArg List.length h2
    rw [List.length_map, List.length_map, wlev_len] at this
    exact this
  obtain ⟨ZA, zc, rfl⟩ := own_slice hz
  have r0 := h.res.put 0 (.int .i64 n)
  have r1 := r0.put 1 (.slice ZA 9 zc)
  have hz3 := setCell_own r1 (by decide) (setCell_own r0 (by decide) (setCell_own h.res (by decide) hz 0 (.int .i64 n)) 1 (.slice ZA 9 zc)) 2 lv
  have hl3 := ((h1.off h.res 0 (.int .i64 n)).off r0 1 (.slice ZA 9 zc)).off r1 2 lv
  have e9 : (wzer X).length = 9 := wzer_len X
  obtain ⟨g, d, cs, hlv, hin⟩ := hl3.block (by intro e; rw [e] at hQl; cases hQl)
  rw [hQl] at hlv
  refine ⟨⟨ZA, zc, g, d, cs, Q, ?_, ⟨?_, ?_⟩, hin, ?_⟩, ((h.below.setCell (p := ⟨w.heap.size, 0, none⟩) (Nat.le_refl _) _).setCell (p := ⟨w.heap.size, 1, none⟩) (Nat.le_refl _) _).setCell (p := ⟨w.heap.size, 2, none⟩) (Nat.le_refl _) _⟩
  · rw [e9, show (levV X).length = 9 by unfold levV; rw [List.length_map, wlev_len], hlv]
  · rw [e9]
    exact hz3
  · intro k hk
    rw [e9] at hk
    exact (own_typed hz3 hk).2.1
  · rw [h2]
    unfold levV
    rw [List.map_map, hn]
    rfl
end

end Go.Proofs.YtoehgcakfblblaaDoor
