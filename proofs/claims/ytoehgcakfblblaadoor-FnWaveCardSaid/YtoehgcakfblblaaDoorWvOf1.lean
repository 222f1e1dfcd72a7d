/- What WaveOf makes: the rows of a wave that grow level by level. -/
import Derived.Test.YtoehgcakfblblaaDoorSplit1
import Derived.Test.YtoehgcakfblblaaDoorLv4
import Derived.Test.YtoehgcakfblblaaDoorWvLaw1
import Derived.Test.YtoehgcakfblblaaDoorWv6
import Derived.Test.YtoehgcakfblblaaDoorOf2
import Derived.Test.YtoehgcakfblblaaDoorLaws5
namespace Go.Proofs.YtoehgcakfblblaaDoor
open Go.RowKit
set_option maxRecDepth 100000

/-- Which lists have a wave. -/
def okW (X : List Int) : Bool := decide (X.length ≤ 1000) && X.all fun x => decide (0 ≤ x ∧ x ≤ 511)
theorem okW_iff (X : List Int) : okW X = true ↔ X.length ≤ 1000 ∧ ∀ x ∈ X, 0 ≤ x ∧ x ≤ 511 := by
  unfold okW
  rw [Bool.and_eq_true, decide_eq_true_iff, List.all_eq_true]
  simp only [decide_eq_true_iff]
/-- Its levels. -/
def levV (X : List Int) : List (Int × List Nat) := (wlev X).map fun L => ((X.length : Int), L)

/-- Bits made from a row of bits. -/
theorem newBits_ok {B : List Int} {n : Nat} (hB : IsBits B) (hl : B.length = n) (hn : n ≤ 5000) {w : World} {e : Ending} {w' : World} (h : BitsOfPost B w e w') : NewBits w (n : Int) (wordsOf B) true e w' := by
  have hok : okBits B = true := (okBits_iff B).2 ⟨by omega, hB⟩
  have := newBits_of h
  unfold resN resW at this
  rw [if_pos hok, if_pos hok, hok, hl] at this
  exact this

/-- The program's wave while it is being made: k levels stand. -/
structure WoI (w W : World) (n : Nat) (X : List Int) (gz gl gb k : Nat) (A : Option Addr) : Prop where
  below : Below w.heap.size w W
  gt : w.heap.size < gb
  res : Box W w.heap.size 28 #[.int .i64 0, .slice none 0 0, .slice none 0 0]
  box : Box W gb 28 #[.int .i64 n, .slice (some ⟨gz, 0, none⟩) 9 9, .slice (some ⟨gl, 0, none⟩) 9 9]
  zer : W.ownsRow w.heap.size 3 1 (.slice (some ⟨gz, 0, none⟩) 9 9) 9 (copied I (I 0) (wzer X) k)
  lev : ∃ cs Q, LvIn W w.heap.size W.heap.size gl cs Q ∧ Q.map (fun q => (q.K, q.xs)) = ((wlev X).take k).map (fun L => ((n : Int), L.map U)) ∧ cs.size = 18
  cur : Lies W I A (wX X k)

theorem tbox_apart {w : World} {g g' : Nat} {t t' : TypeId} {cs cs' : Array Value} (h : Box w g t cs) (h' : Box w g' t' cs') (hne : t ≠ t') : g ≠ g' := by
  intro e
  subst e
  unfold Box at h h'
  rw [h] at h'
  injection h' with h'
  injection h' with _ h' _
  exact hne h'
theorem WoI.zbox {w W : World} {n : Nat} {X : List Int} {gz gl gb k : Nat} {A : Option Addr} (h : WoI w W n X gz gl gb k A) : ∃ cur, Box W gz 3 cur := (own_typed h.zer rfl).2.2
theorem WoI.apart {w W : World} {n : Nat} {X : List Int} {gz gl gb k : Nat} {A : Option Addr} (h : WoI w W n X gz gl gb k A) : gb ≠ gl ∧ gb ≠ gz ∧ gl ≠ gz ∧ w.heap.size ≠ gl ∧ w.heap.size ≠ gz := by
  obtain ⟨cz, hz⟩ := h.zbox
  obtain ⟨cs, Q, hl, _, _⟩ := h.lev
  exact ⟨tbox_apart h.box hl.box (by decide), tbox_apart h.box hz (by decide), tbox_apart hl.box hz (by decide), tbox_apart h.res hl.box (by decide), tbox_apart h.res hz (by decide)⟩

theorem woI_start {w W : World} {n : Nat} {X : List Int} {gz gl gb : Nat} {A : Option Addr} {Zs Ls : Array Value} (hb : Below w.heap.size w W) (hgt : w.heap.size < gb) (hr : Box W w.heap.size 28 #[.int .i64 0, .slice none 0 0, .slice none 0 0])
    (hx : Box W gb 28 #[.int .i64 n, .slice (some ⟨gz, 0, none⟩) 9 9, .slice (some ⟨gl, 0, none⟩) 9 9]) (hz : Box W gz 3 Zs) (hl : Box W gl 46 Ls) (hZ : madeCells #[Value.int .i64 0] 9 = Zs) (hL : madeCells #[Value.int .i64 0, .slice none 0 0] (9 * 2) = Ls) (h1 : w.heap.size ≤ gz) (h2 : w.heap.size ≤ gl) (hc : Lies w I A X) : WoI w W n X gz gl gb 0 A := by
  refine ⟨hb, hgt, hr, hx, ⟨by rw [copied_len _ _ _ (Nat.zero_le _), wzer_len], .inr ⟨gz, 9, Zs, rfl, h1, hz, Nat.le_refl _, by decide, by rw [← hZ, size_madeCells], ?_⟩⟩, ⟨Ls, [], ⟨hl, h2, hl.lt, fun j p h => by simp at h, fun j p h => by simp at h, fun i j p q k _ h => by simp at h⟩, by simp, by rw [← hL, size_madeCells]⟩, hc.below hb⟩
  rw [copied_zero, wzer_len, ← hZ, toList_madeCells_one]
  rfl

theorem LvIn.widen {w : World} {lo hi hi' g : Nat} {cs : Array Value} {Q : List LvV} (h : LvIn w lo hi g cs Q) (hh : hi ≤ hi') : LvIn w lo hi' g cs Q :=
  ⟨h.box, h.low, Nat.lt_of_lt_of_le h.high hh, h.cells, fun j p hp => ⟨(h.own j p hp).1, fun k e => Nat.lt_of_lt_of_le ((h.own j p hp).2 k e) hh⟩, h.apart⟩
theorem LvIn.off {w : World} {lo hi g gz : Nat} {cs cz : Array Value} {Q : List LvV} (h : LvIn w lo hi g cs Q) (hz : Box w gz 3 cz) (i : Nat) (u : Value) : LvIn (w.setCell ⟨gz, i, none⟩ u) lo hi g cs Q :=
  ⟨h.box.off (p := ⟨gz, i, none⟩) (tbox_apart h.box hz (by decide)) u, h.low, h.high, h.cells, fun j p hp => ⟨own_turn4 (h.own j p hp).1 fun k e => Below.heap_setCell w ⟨gz, i, none⟩ u k fun e2 => by
    obtain ⟨_, cur, hh⟩ := own_kindW (h.own j p hp).1 e
    exact tbox_apart (t := 64) (cs := cur) hh hz (by decide) e2, (h.own j p hp).2⟩, h.apart⟩
theorem setCell_own {w : World} {g b n : Nat} {t e : TypeId} {cs : Array Value} {v : Value} {xs : List Value} (hx : Box w g t cs) (hne : e ≠ t) (h : w.ownsRow b e 1 v n xs) (i : Nat) (u : Value) : (w.setCell ⟨g, i, none⟩ u).ownsRow b e 1 v n xs :=
  own_turn4 h fun k hk => Below.heap_setCell w ⟨g, i, none⟩ u k fun e2 => by
    obtain ⟨_, _, cur, hh⟩ := own_typed h hk
    exact tbox_apart (t := e) (cs := cur) hh hx hne e2

/-- The level k is stored, its number of zeros is not yet. -/
structure WoM (w W : World) (n : Nat) (X : List Int) (gz gl gb k b2 : Nat) (A2 : Option Addr) (c2 : Nat) (Ab : Option Addr) (cb : Nat) : Prop where
  below : Below w.heap.size w W
  gt : w.heap.size < gb
  res : Box W w.heap.size 28 #[.int .i64 0, .slice none 0 0, .slice none 0 0]
  box : Box W gb 28 #[.int .i64 n, .slice (some ⟨gz, 0, none⟩) 9 9, .slice (some ⟨gl, 0, none⟩) 9 9]
  zer : W.ownsRow w.heap.size 3 1 (.slice (some ⟨gz, 0, none⟩) 9 9) 9 (copied I (I 0) (wzer X) k)
  lev : ∃ cs Q, LvIn W w.heap.size W.heap.size gl cs Q ∧ Q.map (fun q => (q.K, q.xs)) = ((wlev X).take (k + 1)).map (fun L => ((n : Int), L.map U)) ∧ cs.size = 18
  c0 : W.cell? ⟨gl, k * 2, none⟩ = some (.int .i64 n)
  c1 : W.cell? ⟨gl, k * 2 + 1, none⟩ = some (.slice Ab (wordsOf (wrow X k)).length cb)
  gll : gl < W.heap.size
  words : W.ownsRow b2 64 1 (.slice Ab (wordsOf (wrow X k)).length cb) (wordsOf (wrow X k)).length ((wordsOf (wrow X k)).map U)
  cur : W.ownsRow b2 3 1 (.slice A2 n c2) n ((wX X (k + 1)).map I)
  old : gz < b2
section
variable {w W W' : World} {n : Nat} {X : List Int} {gz gl gb k b2 : Nat} {A A2 Ab : Option Addr} {c2 cb : Nat}
theorem WoM.more (h : WoM w W n X gz gl gb k b2 A2 c2 Ab cb) (hb : Below W.heap.size W W') : WoM w W' n X gz gl gb k b2 A2 c2 Ab cb := by
  obtain ⟨cs, Q, h1, h2, h3⟩ := h.lev
  exact ⟨below_then h.below hb, h.gt, h.res.below hb h.res.lt, h.box.below hb h.box.lt, own_below h.zer hb (Nat.le_refl _), ⟨cs, Q, (h1.below hb (Nat.le_refl _)).widen hb.size, h2, h3⟩,
    (hb.cell (p := ⟨gl, k * 2, none⟩) h.gll).trans h.c0, (hb.cell (p := ⟨gl, k * 2 + 1, none⟩) h.gll).trans h.c1, Nat.lt_of_lt_of_le h.gll hb.size, own_below h.words hb (Nat.le_refl _), own_below h.cur hb (Nat.le_refl _), h.old⟩
theorem WoI.mid (h : WoI w W n X gz gl gb k A) (hk : k < 9) (hb : Below W.heap.size W W') (ho : W'.ownsRow W.heap.size 64 1 (.slice Ab (wordsOf (wrow X k)).length cb) (wordsOf (wrow X k)).length ((wordsOf (wrow X k)).map U)) (hc : W'.ownsRow W.heap.size 3 1 (.slice A2 n c2) n ((wX X (k + 1)).map I)) :
    WoM w ((W'.setCell ⟨gl, k * 2, none⟩ (.int .i64 n)).setCell ⟨gl, k * 2 + 1, none⟩ (.slice Ab (wordsOf (wrow X k)).length cb)) n X gz gl gb k W.heap.size A2 c2 Ab cb := by
  obtain ⟨cs, Q, h1, h2, h3⟩ := h.lev
  obtain ⟨cz, hz⟩ := h.zbox
  have hap := h.apart
  have hQl : Q.length = k := by
    have := congrArg List.length h2
    rw [List.length_map, List.length_map, List.length_take, wlev_len] at this
    omega
  have ho' : W'.ownsRow W.heap.size 64 1 (.slice Ab ((wordsOf (wrow X k)).map U).length cb) ((wordsOf (wrow X k)).map U).length ((wordsOf (wrow X k)).map U) := by rw [List.length_map]; exact ho
  have hs := h1.snoc (K := (n : Int)) hb (Nat.le_refl _) ho' (by omega)
  rw [hQl, List.length_map] at hs
  have hx : Box W' gl 46 cs := h1.box.below hb h1.box.lt
  have hx2 := hx.put (k * 2) (.int .i64 n)
  have hxx := hx2.put (k * 2 + 1) (.slice Ab (wordsOf (wrow X k)).length cb)
  have hgl : w.heap.size ≤ gl := h1.low
  have keep : ∀ {e : TypeId} {b m : Nat} {v : Value} {xs : List Value}, e ≠ 46 → W'.ownsRow b e 1 v m xs → ((W'.setCell ⟨gl, k * 2, none⟩ (.int .i64 n)).setCell ⟨gl, k * 2 + 1, none⟩ (.slice Ab (wordsOf (wrow X k)).length cb)).ownsRow b e 1 v m xs := fun hne hv => setCell_own hx2 hne (setCell_own hx hne hv _ _) _ _
  refine ⟨((below_then h.below hb).setCell (p := ⟨gl, k * 2, none⟩) hgl _).setCell (p := ⟨gl, k * 2 + 1, none⟩) hgl _, h.gt, ((h.res.below hb h.res.lt).off (p := ⟨gl, k * 2, none⟩) hap.2.2.2.1 _).off (p := ⟨gl, k * 2 + 1, none⟩) hap.2.2.2.1 _, ((h.box.below hb h.box.lt).off (p := ⟨gl, k * 2, none⟩) hap.1 _).off (p := ⟨gl, k * 2 + 1, none⟩) hap.1 _,
    keep (by decide) (own_below h.zer hb (Nat.le_refl _)), ⟨_, _, by rw [World.size_setCell, World.size_setCell]; exact hs, ?_, by simp [h3]⟩, (hxx.cell (k * 2)).trans ?_, (hxx.cell (k * 2 + 1)).trans ?_, hxx.lt, keep (by decide) ho, keep (by decide) hc, hz.lt⟩
  · rw [List.map_append, h2, List.take_add_one, List.map_append, wlev_get X k hk]
    rfl
  · rw [Array.getElem?_setIfInBounds_ne (by omega), Array.getElem?_setIfInBounds_self_of_lt (by omega)]
  · rw [Array.getElem?_setIfInBounds_self_of_lt (by rw [Array.size_setIfInBounds]; omega)]
theorem WoM.done (h : WoM w W n X gz gl gb k b2 A2 c2 Ab cb) (hk : k < 9) : WoI w (W.setCell ⟨gz, k, none⟩ (I ((wlow (8 - k) (wX X k)).length : Int))) n X gz gl gb (k + 1) A2 := by
  obtain ⟨cs, Q, h1, h2, h3⟩ := h.lev
  obtain ⟨_, _, cz, hz⟩ := own_typed h.zer rfl
  have hz : Box W gz 3 cz := hz
  have hge : w.heap.size ≤ gz := (own_typed h.zer rfl).1
  refine ⟨h.below.setCell (p := ⟨gz, k, none⟩) hge _, h.gt, h.res.off (p := ⟨gz, k, none⟩) (tbox_apart h.res hz (by decide)) _, h.box.off (p := ⟨gz, k, none⟩) (tbox_apart h.box hz (by decide)) _, ?_, ⟨cs, Q, by rw [World.size_setCell]; exact h1.off hz _ _, h2, h3⟩, ?_⟩
  · rw [copied_succ (f := I) (I 0) (wzer X) k _ (wzer_get X k hk)]
    exact (h.zer.stored k _).1
  · refine Lies.of_own (own_turn4 h.cur fun j hj => Below.heap_setCell W ⟨gz, k, none⟩ _ j ?_)
    have := (own_typed h.cur hj).1
    have := h.old
    show j ≠ gz
    omega
end

section
variable {w W W' : World} {n : Nat} {X : List Int} {gz gl gb k b2 : Nat} {A A2 Ab : Option Addr} {c2 cb : Nat}
/-- What the last store of a round needs. -/
theorem WoM.slot (h : WoM w W n X gz gl gb k b2 A2 c2 Ab cb) (hk : k < 9) : W.cell? ⟨gz, k, none⟩ = some (I 0) ∧ W.frozen? ⟨gz, k, none⟩ = false ∧ gz < W.heap.size :=
  ⟨(h.zer.cellAt k (by omega)).trans (copied_get (f := I) (I 0) (wzer X) k (by rw [wzer_len]; exact hk)), h.zer.frozenAt k, (own_typed h.zer rfl).2.1⟩
theorem WoM.cells (h : WoM w W n X gz gl gb k b2 A2 c2 Ab cb) : W.cell? ⟨gb, 0, none⟩ = some (.int .i64 n) ∧ W.cell? ⟨gb, 1, none⟩ = some (.slice (some ⟨gz, 0, none⟩) 9 9) ∧ W.cell? ⟨gb, 2, none⟩ = some (.slice (some ⟨gl, 0, none⟩) 9 9) ∧ W.cell? ⟨gl, k * 2, none⟩ = some (.int .i64 n) ∧ W.cell? ⟨gl, k * 2 + 1, none⟩ = some (.slice Ab (wordsOf (wrow X k)).length cb) :=
  ⟨h.box.cell 0, h.box.cell 1, h.box.cell 2, h.c0, h.c1⟩
/-- The wave that has been made. -/
theorem WoI.wave (h : WoI w W n X gz gl gb 9 A) (hn : X.length = n) (hx : ∀ x ∈ X, 0 ≤ x ∧ x ≤ 511) (hr : W' = ((W.setCell ⟨w.heap.size, 0, none⟩ (.int .i64 n)).setCell ⟨w.heap.size, 1, none⟩ (.slice (some ⟨gz, 0, none⟩) 9 9)).setCell ⟨w.heap.size, 2, none⟩ (.slice (some ⟨gl, 0, none⟩) 9 9)) :
    WvO W' w.heap.size W'.heap.size n (wzer X) (levV X) (.agg #[.int .i64 n, .slice (some ⟨gz, 0, none⟩) 9 9, .slice (some ⟨gl, 0, none⟩) 9 9]) ∧ Below w.heap.size w W' := by
  subst hr
  have hap := h.apart
  obtain ⟨cs, Q, h1, h2, _⟩ := h.lev
  have hz := h.zer
  have e9 : (wzer X).length = 9 := wzer_len X
  have ea := copied_all (f := I) (I 0) (wzer X)
  rw [e9] at ea
  rw [ea] at hz
  rw [List.take_of_length_le (by rw [wlev_len]; exact Nat.le_refl _)] at h2
  have hne : ∀ k, (Value.slice (some ⟨gz, 0, none⟩) 9 9).ownBlock = some k → k ≠ w.heap.size := fun k hk e => by
    injection hk with hk
    exact hap.2.2.2.2 (by rw [← e, ← hk])
  have t3 : ∀ (g : Nat), g ≠ w.heap.size → (((W.setCell ⟨w.heap.size, 0, none⟩ (.int .i64 n)).setCell ⟨w.heap.size, 1, none⟩ (.slice (some ⟨gz, 0, none⟩) 9 9)).setCell ⟨w.heap.size, 2, none⟩ (.slice (some ⟨gl, 0, none⟩) 9 9)).heap[g]? = W.heap[g]? := fun g hg =>
    (Below.heap_setCell _ ⟨w.heap.size, 2, none⟩ _ g hg).trans ((Below.heap_setCell _ ⟨w.heap.size, 1, none⟩ _ g hg).trans (Below.heap_setCell _ ⟨w.heap.size, 0, none⟩ _ g hg))
  refine ⟨⟨some ⟨gz, 0, none⟩, 9, gl, 9, cs, Q, ?_, ⟨?_, ?_⟩, ?_, ?_⟩, ((h.below.setCell (p := ⟨w.heap.size, 0, none⟩) (Nat.le_refl _) _).setCell (p := ⟨w.heap.size, 1, none⟩) (Nat.le_refl _) _).setCell (p := ⟨w.heap.size, 2, none⟩) (Nat.le_refl _) _⟩
  · rw [e9, show (levV X).length = 9 by unfold levV; rw [List.length_map, wlev_len]]
  · rw [e9]
    exact own_turn4 hz fun k hk => t3 k (hne k hk)
  · intro k hk
    injection hk with hk
    rw [World.size_setCell, World.size_setCell, World.size_setCell]
    have := (own_typed h.zer rfl).2.1
    rw [← hk]
    exact this
  · rw [World.size_setCell, World.size_setCell, World.size_setCell]
    refine ⟨(t3 gl fun e => hap.2.2.2.1 e.symm).trans h1.box, h1.low, h1.high, h1.cells, fun j p hp => ⟨own_turn4 (h1.own j p hp).1 fun k hk => t3 k fun e => ?_, (h1.own j p hp).2⟩, h1.apart⟩
    obtain ⟨_, cur, hh⟩ := own_kindW (h1.own j p hp).1 hk
    exact tbox_apart (t := 64) (cs := cur) hh h.res (by decide) e
  · rw [h2]
    unfold levV
    rw [List.map_map, hn]
    rfl
end

/-- Three blocks laid behind another one. -/
theorem three_pass {G : World → Prop} {w : World} {r ca cb cc : Array Value} {tr ta tb tc : TypeId}
    (h : ∀ W, Below w.heap.size w W → Box W w.heap.size tr r → Box W (w.heap.size + 1) ta ca → Box W (w.heap.size + 1 + 1) tb cb → Box W (w.heap.size + 1 + 1 + 1) tc cc → G W) : G ((((w.alloc (.cells r tr)).alloc (.cells ca ta)).alloc (.cells cb tb)).alloc (.cells cc tc)).drew := by
  have s1 : (w.alloc (.cells r tr)).heap.size = w.heap.size + 1 := World.size_alloc _ _
  have s2 : ((w.alloc (.cells r tr)).alloc (.cells ca ta)).heap.size = w.heap.size + 1 + 1 := by rw [World.size_alloc, s1]
  have s3 : (((w.alloc (.cells r tr)).alloc (.cells ca ta)).alloc (.cells cb tb)).heap.size = w.heap.size + 1 + 1 + 1 := by rw [World.size_alloc, s2]
  have b1 := ((Box.made (w.alloc (.cells r tr)) ta ca).alloc (.cells cb tb)).alloc (.cells cc tc)
  have b2 := (Box.made ((w.alloc (.cells r tr)).alloc (.cells ca ta)) tb cb).alloc (.cells cc tc)
  have b3 := Box.made (((w.alloc (.cells r tr)).alloc (.cells ca ta)).alloc (.cells cb tb)) tc cc
  rw [s1] at b1
  rw [s2] at b2
  rw [s3] at b3
  exact h _ ((((Below.refl _ _).alloc (Nat.le_refl _) _).alloc (by omega) _).alloc (by omega) _ |>.alloc (by omega) _).drew ((((Box.made w tr r).alloc (.cells ca ta)).alloc (.cells cb tb)).alloc (.cells cc tc)) b1 b2 b3

end Go.Proofs.YtoehgcakfblblaaDoor
