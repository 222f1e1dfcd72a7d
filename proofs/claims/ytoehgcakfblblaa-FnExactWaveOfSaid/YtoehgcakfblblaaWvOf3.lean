import Derived.Test.YtoehgcakfblblaaSplit1
import Derived.Test.YtoehgcakfblblaaLv4
import Derived.Test.YtoehgcakfblblaaWvLaw2
import Derived.Test.YtoehgcakfblblaaWv6
import Derived.Test.YtoehgcakfblblaaOf2
import Derived.Test.YtoehgcakfblblaaNewB
/- What WaveOf makes: the rows of a wave that grow level by level. -/
namespace Go.Proofs.Ytoehgcakfblblaa
open Go.RowKit
set_option maxRecDepth 100000

/-- Which lists have a wave. -/
def okW (X : List Int) : Bool := decide (X.length ≤ 1000) && X.all fun x => decide (0 ≤ x ∧ x ≤ 511)
theorem okW_iff (X : List Int) : okW X = true ↔ X.length ≤ 1000 ∧ ∀ x ∈ X, 0 ≤ x ∧ x ≤ 511 := by
  unfold okW
  rw [Bool.and_eq_true, decide_eq_true_iff, List.all_eq_true]
  simp only [decide_eq_true_iff]
/-- Its levels. -/
def levV (X : List Int) : List (Int × List Nat) := (wlev X).map fun L => ((X.length : Int), L)

/-- Bits made from a row of bits. -/
theorem newBits_ok {B : List Int} {n : Nat} (hB : IsBits B) (hl : B.length = n) (hn : n ≤ 5000) {w : World} {e : Ending} {w' : World} (h : BitsOfPost B w e w') : NewBits w (n : Int) (wordsOf B) true e w' := by
  have hok : okBits B = true := (okBits_iff B).2 ⟨by omega, hB⟩
  have := newBits_of h
  unfold resN resW at this
  rw [if_pos hok, if_pos hok, hok, hl] at this
  exact this

/-- The program's wave while it is being made: k levels stand. -/
structure WoI (w W : World) (n : Nat) (X : List Int) (gz gl gb k : Nat) (A : Option Addr) : Prop where
  below : Below w.heap.size w W
  gt : w.heap.size < gb
  res : Box W w.heap.size 27 #[.int .i64 0, .slice none 0 0, .slice none 0 0]
  box : Box W gb 27 #[.int .i64 n, .slice (some ⟨gz, 0, none⟩) 9 9, .slice (some ⟨gl, 0, none⟩) 9 9]
  zer : W.ownsRow w.heap.size 3 1 (.slice (some ⟨gz, 0, none⟩) 9 9) 9 (copied I (I 0) (wzer X) k)
  lev : ∃ cs Q, LvIn W w.heap.size W.heap.size gl cs Q ∧ Q.map (fun q => (q.K, q.xs)) = ((wlev X).take k).map (fun L => ((n : Int), L.map U)) ∧ cs.size = 18
  cur : Lies W I A (wX X k)

theorem tbox_apart {w : World} {g g' : Nat} {t t' : TypeId} {cs cs' : Array Value} (h : Box w g t cs) (h' : Box w g' t' cs') (hne : t ≠ t') : g ≠ g' := by
  intro e
  subst e
  unfold Box at h h'
  rw [h] at h'
  injection h' with h'
  injection h' with _ h' _
  exact hne h'
theorem WoI.zbox {w W : World} {n : Nat} {X : List Int} {gz gl gb k : Nat} {A : Option Addr} (h : WoI w W n X gz gl gb k A) : ∃ cur, Box W gz 3 cur := (own_typed h.zer rfl).2.2
theorem WoI.apart {w W : World} {n : Nat} {X : List Int} {gz gl gb k : Nat} {A : Option Addr} (h : WoI w W n X gz gl gb k A) : gb ≠ gl ∧ gb ≠ gz ∧ gl ≠ gz ∧ w.heap.size ≠ gl ∧ w.heap.size ≠ gz := by
  obtain ⟨cz, hz⟩ := h.zbox
  obtain ⟨cs, Q, hl, _, _⟩ := h.lev
  exact ⟨tbox_apart h.box hl.box (by decide), tbox_apart h.box hz (by decide), tbox_apart hl.box hz (by decide), tbox_apart h.res hl.box (by decide), tbox_apart h.res hz (by decide)⟩

theorem woI_start {w W : World} {n : Nat} {X : List Int} {gz gl gb : Nat} {A : Option Addr} {Zs Ls : Array Value} (hb : Below w.heap.size w W) (hgt : w.heap.size < gb) (hr : Box W w.heap.size 27 #[.int .i64 0, .slice none 0 0, .slice none 0 0])
    (hx : Box W gb 27 #[.int .i64 n, .slice (some ⟨gz, 0, none⟩) 9 9, .slice (some ⟨gl, 0, none⟩) 9 9]) (hz : Box W gz 3 Zs) (hl : Box W gl 44 Ls) (hZ : madeCells #[Value.int .i64 0] 9 = Zs) (hL : madeCells #[Value.int .i64 0, .slice none 0 0] (9 * 2) = Ls) (h1 : w.heap.size ≤ gz) (h2 : w.heap.size ≤ gl) (hc : Lies w I A X) : WoI w W n X gz gl gb 0 A := by
  refine ⟨hb, hgt, hr, hx, ⟨by rw [copied_len _ _ _ (Nat.zero_le _), wzer_len], .inr ⟨gz, 9, Zs, rfl, h1, hz, Nat.le_refl _, by decide, by rw [← hZ, size_madeCells], ?_⟩⟩, ⟨Ls, [], ⟨hl, h2, hl.lt, fun j p h => by simp at h, fun j p h => by simp at h, fun i j p q k _ h => by simp at h⟩, by simp, by rw [← hL, size_madeCells]⟩, hc.below hb⟩
  rw [copied_zero, wzer_len, ← hZ, toList_madeCells_one]
  rfl

theorem LvIn.widen {w : World} {lo hi hi' g : Nat} {cs : Array Value} {Q : List LvV} (h : LvIn w lo hi g cs Q) (hh : hi ≤ hi') : LvIn w lo hi' g cs Q :=
  ⟨h.box, h.low, Nat.lt_of_lt_of_le h.high hh, h.cells, fun j p hp => ⟨(h.own j p hp).1, fun k e => Nat.lt_of_lt_of_le ((h.own j p hp).2 k e) hh⟩, h.apart⟩
theorem LvIn.off {w : World} {lo hi g gz : Nat} {cs cz : Array Value} {Q : List LvV} (h : LvIn w lo hi g cs Q) (hz : Box w gz 3 cz) (i : Nat) (u : Value) : LvIn (w.setCell ⟨gz, i, none⟩ u) lo hi g cs Q :=
  ⟨h.box.off (p := ⟨gz, i, none⟩) (tbox_apart h.box hz (by decide)) u, h.low, h.high, h.cells, fun j p hp => ⟨own_turn4 (h.own j p hp).1 fun k e => Below.heap_setCell w ⟨gz, i, none⟩ u k fun e2 => by
    obtain ⟨_, cur, hh⟩ := own_kindW (h.own j p hp).1 e
    exact tbox_apart (t := 123) (cs := cur) hh hz (by decide) e2, (h.own j p hp).2⟩, h.apart⟩
theorem setCell_own {w : World} {g b n : Nat} {t e : TypeId} {cs : Array Value} {v : Value} {xs : List Value} (hx : Box w g t cs) (hne : e ≠ t) (h : w.ownsRow b e 1 v n xs) (i : Nat) (u : Value) : (w.setCell ⟨g, i, none⟩ u).ownsRow b e 1 v n xs :=
  own_turn4 h fun k hk => Below.heap_setCell w ⟨g, i, none⟩ u k fun e2 => by
    obtain ⟨_, _, cur, hh⟩ := own_typed h hk
    exact tbox_apart (t := e) (cs := cur) hh hx hne e2

/-- The level k is stored, its number of zeros is not yet. -/
structure WoM (w W : World) (n : Nat) (X : List Int) (gz gl gb k b2 : Nat) (A2 : Option Addr) (c2 : Nat) (Ab : Option Addr) (cb : Nat) : Prop where
  below : Below w.heap.size w W
  gt : w.heap.size < gb
  res : Box W w.heap.size 27 #[.int .i64 0, .slice none 0 0, .slice none 0 0]
  box : Box W gb 27 #[.int .i64 n, .slice (some ⟨gz, 0, none⟩) 9 9, .slice (some ⟨gl, 0, none⟩) 9 9]
  zer : W.ownsRow w.heap.size 3 1 (.slice (some ⟨gz, 0, none⟩) 9 9) 9 (copied I (I 0) (wzer X) k)
  lev : ∃ cs Q, LvIn W w.heap.size W.heap.size gl cs Q ∧ Q.map (fun q => (q.K, q.xs)) = ((wlev X).take (k + 1)).map (fun L => ((n : Int), L.map U)) ∧ cs.size = 18
  c0 : W.cell? ⟨gl, k * 2, none⟩ = some (.int .i64 n)
  c1 : W.cell? ⟨gl, k * 2 + 1, none⟩ = some (.slice Ab (wordsOf (wrow X k)).length cb)
  gll : gl < W.heap.size
  words : W.ownsRow b2 123 1 (.slice Ab (wordsOf (wrow X k)).length cb) (wordsOf (wrow X k)).length ((wordsOf (wrow X k)).map U)
  cur : W.ownsRow b2 3 1 (.slice A2 n c2) n ((wX X (k + 1)).map I)
  old : gz < b2
section
variable {w W W' : World} {n : Nat} {X : List Int} {gz gl gb k b2 : Nat} {A A2 Ab : Option Addr} {c2 cb : Nat}
theorem WoM.more (h : WoM w W n X gz gl gb k b2 A2 c2 Ab cb) (hb : Below W.heap.size W W') : WoM w W' n X gz gl gb k b2 A2 c2 Ab cb := by
  obtain ⟨cs, Q, h1, h2, h3⟩ := h.lev
  exact ⟨below_then h.below hb, h.gt, h.res.below hb h.res.lt, h.box.below hb h.box.lt, own_below h.zer hb (Nat.le_refl _), ⟨cs, Q, (h1.below hb (Nat.le_refl _)).widen hb.size, h2, h3⟩,
    (hb.cell (p := ⟨gl, k * 2, none⟩) h.gll).trans h.c0, (hb.cell (p := ⟨gl, k * 2 + 1, none⟩) h.gll).trans h.c1, Nat.lt_of_lt_of_le h.gll hb.size, own_below h.words hb (Nat.le_refl _), own_below h.cur hb (Nat.le_refl _), h.old⟩
theorem WoI.mid (h : WoI w W n X gz gl gb k A) (hk : k < 9) (hb : Below W.heap.size W W') (ho : W'.ownsRow W.heap.size 123 1 (.slice Ab (wordsOf (wrow X k)).length cb) (wordsOf (wrow X k)).length ((wordsOf (wrow X k)).map U)) (hc : W'.ownsRow W.heap.size 3 1 (.slice A2 n c2) n ((wX X (k + 1)).map I)) :
    WoM w ((W'.setCell ⟨gl, k * 2, none⟩ (.int .i64 n)).setCell ⟨gl, k * 2 + 1, none⟩ (.slice Ab (wordsOf (wrow X k)).length cb)) n X gz gl gb k W.heap.size A2 c2 Ab cb := by
  obtain ⟨cs, Q, h1, h2, h3⟩ := h.lev
  obtain ⟨cz, hz⟩ := h.zbox
  have hap := h.apart
  have hQl : Q.length = k := by
    have := congrArg List.length h2
    rw [List.length_map, List.length_map, List.length_take, wlev_len] at this
    omega
  have ho' : W'.ownsRow W.heap.size 123 1 (.slice Ab ((wordsOf (wrow X k)).map U).length cb) ((wordsOf (wrow X k)).map U).length ((wordsOf (wrow X k)).map U) := by rw [List.length_map]; exact ho
  have hs := h1.snoc (K := (n : Int)) hb (Nat.le_refl _) ho' (by omega)
  rw [hQl, List.length_map] at hs
  have hx : Box W' gl 44 cs := h1.box.below hb h1.box.lt
  have hx2 := hx.put (k * 2) (.int .i64 n)
  have hxx := hx2.put (k * 2 + 1) (.slice Ab (wordsOf (wrow X k)).length cb)
  have hgl : w.heap.size ≤ gl := h1.low
  have keep : ∀ {e : TypeId} {b m : Nat} {v : Value} {xs : List Value}, e ≠ 44 → W'.ownsRow b e 1 v m xs → ((W'.setCell ⟨gl, k * 2, none⟩ (.int .i64 n)).setCell ⟨gl, k * 2 + 1, none⟩ (.slice Ab (wordsOf (wrow X k)).length cb)).ownsRow b e 1 v m xs := fun hne hv => setCell_own hx2 hne (setCell_own hx hne hv _ _) _ _
  refine ⟨((below_then h.below hb).setCell (p := ⟨gl, k * 2, none⟩) hgl _).setCell (p := ⟨gl, k * 2 + 1, none⟩) hgl _, h.gt, ((h.res.below hb h.res.lt).off (p := ⟨gl, k * 2, none⟩) hap.2.2.2.1 _).off (p := ⟨gl, k * 2 + 1, none⟩) hap.2.2.2.1 _, ((h.box.below hb h.box.lt).off (p := ⟨gl, k * 2, none⟩) hap.1 _).off (p := ⟨gl, k * 2 + 1, none⟩) hap.1 _,
    keep (by decide) (own_below h.zer hb (Nat.le_refl _)), ⟨_, _, by rw [World.size_setCell, World.size_setCell]; exact hs, ?_, by simp [h3]⟩, (hxx.cell (k * 2)).trans ?_, (hxx.cell (k * 2 + 1)).trans ?_, hxx.lt, keep (by decide) ho, keep (by decide) hc, hz.lt⟩
  · rw [List.map_append, h2, List.take_add_one, List.map_append, wlev_get X k hk]
    rfl
  · rw [Array.getElem?_setIfInBounds_ne (by omega), Array.getElem?_setIfInBounds_self_of_lt (by omega)]
  · rw [Array.getElem?_setIfInBounds_self_of_lt (by rw [Array.size_setIfInBounds]; omega)]
theorem WoM.done (h : WoM w W n X gz gl gb k b2 A2 c2 Ab cb) (hk : k < 9) : WoI w (W.setCell ⟨gz, k, none⟩ (I ((wlow (8 - k) (wX X k)).length : Int))) n X gz gl gb (k + 1) A2 := by
  obtain ⟨cs, Q, h1, h2, h3⟩ := h.lev
  obtain ⟨_, _, cz, hz⟩ := own_typed h.zer rfl
  have hz : Box W gz 3 cz := hz
  have hge : w.heap.size ≤ gz := (own_typed h.zer rfl).1
  refine ⟨h.below.setCell (p := ⟨gz, k, none⟩) hge _, h.gt, h.res.off (p := ⟨gz, k, none⟩) (tbox_apart h.res hz (by decide)) _, h.box.off (p := ⟨gz, k, none⟩) (tbox_apart h.box hz (by decide)) _, ?_, ⟨cs, Q, by rw [World.size_setCell]; exact h1.off hz _ _, h2, h3⟩, ?_⟩
  · rw [copied_succ (f := I) (I 0) (wzer X) k _ (wzer_get X k hk)]
    exact (h.zer.stored k _).1
  · refine Lies.of_own (own_turn4 h.cur fun j hj => Below.heap_setCell W ⟨gz, k, none⟩ _ j ?_)
    have := (own_typed h.cur hj).1
    have := h.old
    show j ≠ gz
    omega
end

section
variable {w W W' : World} {n : Nat} {X : List Int} {gz gl gb k b2 : Nat} {A A2 Ab : Option Addr} {c2 cb : Nat}
/-- What the last store of a round needs. -/
theorem WoM.slot (h : WoM w W n X gz gl gb k b2 A2 c2 Ab cb) (hk : k < 9) : W.cell? ⟨gz, k, none⟩ = some (I 0) ∧ W.frozen? ⟨gz, k, none⟩ = false ∧ gz < W.heap.size :=
  ⟨(h.zer.cellAt k (by omega)).trans (copied_get (f := I) (I 0) (wzer X) k (by rw [wzer_len]; exact hk)), h.zer.frozenAt k, (own_typed h.zer rfl).2.1⟩
theorem WoM.cells (h : WoM w W n X gz gl gb k b2 A2 c2 Ab cb) : W.cell? ⟨gb, 0, none⟩ = some (.int .i64 n) ∧ W.cell? ⟨gb, 1, none⟩ = some (.slice (some ⟨gz, 0, none⟩) 9 9) ∧ W.cell? ⟨gb, 2, none⟩ = some (.slice (some ⟨gl, 0, none⟩) 9 9) ∧ W.cell? ⟨gl, k * 2, none⟩ = some (.int .i64 n) ∧ W.cell? ⟨gl, k * 2 + 1, none⟩ = some (.slice Ab (wordsOf (wrow X k)).length cb) :=
  ⟨h.box.cell 0, h.box.cell 1, h.box.cell 2, h.c0, h.c1⟩
/-- The wave that has been made. -/
theorem WoI.wave (h : WoI w W n X gz gl gb 9 A) (hn : X.length = n) (hx : ∀ x ∈ X, 0 ≤ x ∧ x ≤ 511) (hr : W' = ((W.setCell ⟨w.heap.size, 0, none⟩ (.int .i64 n)).setCell ⟨w.heap.size, 1, none⟩ (.slice (some ⟨gz, 0, none⟩) 9 9)).setCell ⟨w.heap.size, 2, none⟩ (.slice (some ⟨gl, 0, none⟩) 9 9)) :
    WvO W' w.heap.size W'.heap.size n (wzer X) (levV X) (.agg #[.int .i64 n, .slice (some ⟨gz, 0, none⟩) 9 9, .slice (some ⟨gl, 0, none⟩) 9 9]) ∧ Below w.heap.size w W' := by
  subst hr
  have hap := h.apart
  obtain ⟨cs, Q, h1, h2, _⟩ := h.lev
  have hz := h.zer
  have e9 : (wzer X).length = 9 := wzer_len X
  have ea := copied_all (f := I) (I 0) (wzer X)
  rw [e9] at ea
  rw [ea] at hz
  rw [List.take_of_length_le (by rw [wlev_len]; exact Nat.le_refl _)] at h2
  have hne : ∀ k, (Value.slice (some ⟨gz, 0, none⟩) 9 9).ownBlock = some k → k ≠ w.heap.size := fun k hk e => by
    injection hk with hk
    exact hap.2.2.2.2 (by rw [← e, ← hk])
  have t3 : ∀ (g : Nat), g ≠ w.heap.size → (((W.setCell ⟨w.heap.size, 0, none⟩ (.int .i64 n)).setCell ⟨w.heap.size, 1, none⟩ (.slice (some ⟨gz, 0, none⟩) 9 9)).setCell ⟨w.heap.size, 2, none⟩ (.slice (some ⟨gl, 0, none⟩) 9 9)).heap[g]? = W.heap[g]? := fun g hg =>
    (Below.heap_setCell _ ⟨w.heap.size, 2, none⟩ _ g hg).trans ((Below.heap_setCell _ ⟨w.heap.size, 1, none⟩ _ g hg).trans (Below.heap_setCell _ ⟨w.heap.size, 0, none⟩ _ g hg))
  refine ⟨⟨some ⟨gz, 0, none⟩, 9, gl, 9, cs, Q, ?_, ⟨?_, ?_⟩, ?_, ?_⟩, ((h.below.setCell (p := ⟨w.heap.size, 0, none⟩) (Nat.le_refl _) _).setCell (p := ⟨w.heap.size, 1, none⟩) (Nat.le_refl _) _).setCell (p := ⟨w.heap.size, 2, none⟩) (Nat.le_refl _) _⟩
  · rw [e9, show (levV X).length = 9 by unfold levV; rw [List.length_map, wlev_len]]
  · rw [e9]
    exact own_turn4 hz fun k hk => t3 k (hne k hk)
  · intro k hk
    injection hk with hk
    rw [World.size_setCell, World.size_setCell, World.size_setCell]
    have := (own_typed h.zer rfl).2.1
    rw [← hk]
    exact this
  · rw [World.size_setCell, World.size_setCell, World.size_setCell]
    refine ⟨(t3 gl fun e => hap.2.2.2.1 e.symm).trans h1.box, h1.low, h1.high, h1.cells, fun j p hp => ⟨own_turn4 (h1.own j p hp).1 fun k hk => t3 k fun e => ?_, (h1.own j p hp).2⟩, h1.apart⟩
    obtain ⟨_, cur, hh⟩ := own_kindW (h1.own j p hp).1 hk
    exact tbox_apart (t := 123) (cs := cur) hh h.res (by decide) e
  · rw [h2]
    unfold levV
    rw [List.map_map, hn]
    rfl
end

/-- Three blocks laid behind another one. -/
theorem three_pass {G : World → Prop} {w : World} {r ca cb cc : Array Value} {tr ta tb tc : TypeId}
    (h : ∀ W, Below w.heap.size w W → Box W w.heap.size tr r → Box W (w.heap.size + 1) ta ca → Box W (w.heap.size + 1 + 1) tb cb → Box W (w.heap.size + 1 + 1 + 1) tc cc → G W) : G ((((w.alloc (.cells r tr)).alloc (.cells ca ta)).alloc (.cells cb tb)).alloc (.cells cc tc)).drew := by
  have s1 : (w.alloc (.cells r tr)).heap.size = w.heap.size + 1 := World.size_alloc _ _
  have s2 : ((w.alloc (.cells r tr)).alloc (.cells ca ta)).heap.size = w.heap.size + 1 + 1 := by rw [World.size_alloc, s1]
  have s3 : (((w.alloc (.cells r tr)).alloc (.cells ca ta)).alloc (.cells cb tb)).heap.size = w.heap.size + 1 + 1 + 1 := by rw [World.size_alloc, s2]
  have b1 := ((Box.made (w.alloc (.cells r tr)) ta ca).alloc (.cells cb tb)).alloc (.cells cc tc)
  have b2 := (Box.made ((w.alloc (.cells r tr)).alloc (.cells ca ta)) tb cb).alloc (.cells cc tc)
  have b3 := Box.made (((w.alloc (.cells r tr)).alloc (.cells ca ta)).alloc (.cells cb tb)) tc cc
  rw [s1] at b1
  rw [s2] at b2
  rw [s3] at b3
  exact h _ ((((Below.refl _ _).alloc (Nat.le_refl _) _).alloc (by omega) _).alloc (by omega) _ |>.alloc (by omega) _).drew ((((Box.made w tr r).alloc (.cells ca ta)).alloc (.cells cb tb)).alloc (.cells cc tc)) b1 b2 b3

end Go.Proofs.Ytoehgcakfblblaa

/- WaveOf of the program. -/
namespace Go.Proofs.Ytoehgcakfblblaa
open Go.RowKit
set_option maxRecDepth 100000

set_option maxHeartbeats 3200000 in
theorem implWaveOf_in (A : Option Addr) (c n : Nat) (X : List Int) (w : World) (hL : Lies w I A X) (hl : X.length = n) (hn : n ≤ 1000) (hX : ∀ x ∈ X, 0 ≤ x ∧ x ≤ 511) :
    Calls Try.prog 22 #[.slice A n c] w fun e w' => ∃ v, e = .returned (.tuple #[v, .bool true]) ∧ WvO w' w.heap.size w'.heap.size n (wzer X) (levV X) v ∧ Below w.heap.size w w' := by
  have HL := Lib.hid hL
  have HX := Lib.hid hX
  have Hl := Lib.hid hl
  obtain ⟨Zs, hZs⟩ : ∃ Zs, madeCells #[Value.int .i64 0] 9 = Zs := ⟨_, rfl⟩
  obtain ⟨Ls, hLs⟩ : ∃ Ls, madeCells #[Value.int .i64 0, .slice none 0 0] (9 * 2) = Ls := ⟨_, rfl⟩
  have hmz : ∀ W : World, (Instr.makeSlice 24 (.int .i64 9) (.int .i64 9)).run Try.prog W = .ok (.slice (some ⟨W.heap.size, 0, none⟩) 9 9) (W.alloc (.cells Zs 3)) := fun W => by rw [← hZs]; exact run_make_row' (P := Try.prog) 24 3 (.int .i64 0) 8 Try.underlying24 Try.infoInt rfl .i64 .i64 9 (by omega) (by omega) W
  have hml : ∀ W : World, (Instr.makeSlice 25 (.int .i64 9) (.int .i64 9)).run Try.prog W = .ok (.slice (some ⟨W.heap.size, 0, none⟩) 9 9) (W.alloc (.cells Ls 44)) := fun W => by rw [← hLs]; exact make_lvs 9 (by omega) W
  have HZs := Lib.hid hZs
  have HLs := Lib.hid hLs
  clear hZs hLs
  have CI : Hid (∀ (x : Int) (W : World), x ∈ X → Calls Try.prog 62 #[.int .i64 x] W fun e w' => e = .returned (.bool true) ∧ W = w') := Lib.hid fun x W hx => by
    have c := isWave_any x W
    rw [decide_eq_true (hX x hx)] at c
    exact c
  have t0 : decide ((1000 : Int) < (n : Int)) = false := by simp; omega
  clear hL hX hl
  go_enter Try.func22, Try.ntmps22
  go_wp2
  have HB0 : Hid (Below w.heap.size w (w.alloc (.cells #[.int .i64 0, .slice none 0 0, .slice none 0 0] 27))) := Lib.hid ((Below.refl _ _).alloc (Nat.le_refl _) _)
  go_loop [5, 15] (fun x t => ∃ i : Nat, i ≤ n ∧ t = .int .i64 i) (fun _ t => n - (intOf t).toNat)
  case atStart => exact ⟨0, Nat.zero_le _, rfl⟩
  case round =>
    obtain ⟨i, hi, rfl⟩ := hrel
    by_cases hlt : i < n
    · obtain ⟨b, o, x, hA, hbl, hx, hc⟩ := (HL.out.below HB0.out).at_ (i := i) (by rw [Hl.out]; exact hlt)
      subst hA
      have CB := Lib.hid (CI.out x (w.alloc (.cells #[.int .i64 0, .slice none 0 0, .slice none 0 0] 27)) (List.mem_of_getElem? hx))
      have i0 : (0 : Int) ≤ (i : Int) := by omega
      have i1 : (i : Int) < (n : Int) := by omega
      clear hx
      go_wp2_with fail
      refine CB.out.mono ?_
      rintro e w1 ⟨rfl, rfl⟩
      go_wp2
      go_round
      case rel => exact ⟨i + 1, by omega, by go_num⟩
      case measure => simp [intOf]; omega
    · have hin : i = n := by omega
      subst hin
      go_wp2
      go_region
      all_goals
        refine three_pass (G := Exit.then _ _ Exit.normal _) ?_
        intro W hb hr h1 h2 h3
        clear hmz hml HB0
        first
          | (have HI0 := Lib.hid (woI_start hb (by omega) hr h3 h1 h2 HZs.out HLs.out (by omega) (by omega) HL.out); clear hb hr h1 h2 h3; generalize w.heap.size + 1 + 1 + 1 = gb at HI0 ⊢)
          | (have HI0 := Lib.hid (woI_start hb (by omega) hr h3 h2 h1 HZs.out HLs.out (by omega) (by omega) HL.out); clear hb hr h1 h2 h3; generalize w.heap.size + 1 + 1 + 1 = gb at HI0 ⊢)
          | (have HI0 := Lib.hid (woI_start hb (by omega) hr h2 h1 h3 HZs.out HLs.out (by omega) (by omega) HL.out); clear hb hr h1 h2 h3; generalize w.heap.size + 1 + 1 = gb at HI0 ⊢)
          | (have HI0 := Lib.hid (woI_start hb (by omega) hr h2 h3 h1 HZs.out HLs.out (by omega) (by omega) HL.out); clear hb hr h1 h2 h3; generalize w.heap.size + 1 + 1 = gb at HI0 ⊢)
          | (have HI0 := Lib.hid (woI_start hb (by omega) hr h1 h2 h3 HZs.out HLs.out (by omega) (by omega) HL.out); clear hb hr h1 h2 h3; generalize w.heap.size + 1 = gb at HI0 ⊢)
          | (have HI0 := Lib.hid (woI_start hb (by omega) hr h1 h3 h2 HZs.out HLs.out (by omega) (by omega) HL.out); clear hb hr h1 h2 h3; generalize w.heap.size + 1 = gb at HI0 ⊢)
        obtain ⟨gz, gl, HI0⟩ : ∃ gz gl, Hid (WoI w W i X gz gl gb 0 A) := ⟨_, _, HI0⟩
        go_wp2
        go_loopw [0, 29] (fun l t wr => ∃ (k : Nat) (A : Option Addr) (c : Nat), k ≤ 9 ∧ t = .int .i64 k ∧ l = .slice A i c ∧ Hid (WoI w wr i X gz gl gb k A)) (fun _ t _ => 9 - (intOf t).toNat)
        case atStart => exact ⟨0, _, _, Nat.zero_le _, rfl, rfl, HI0⟩
        case round =>
          obtain ⟨k, A, c, hk, rfl, rfl, HI⟩ := hrel
          clear HI0
          by_cases hlt : k < 9
          · have CS := Lib.hid (splitBy_any A c i k (wX X k) wr HI.out.cur (by omega) (fun x hx => HX.out x (wX_mem hx)) (by rw [wX_len, Hl.out]) hn)
            have k1 : (k : Int) < 9 := by omega
            have k0 : (0 : Int) ≤ (k : Int) := by omega
            go_wp2_with fail
            refine CS.out.mono ?_
            rintro e w1 ⟨A1, c1, A2, c2, rfl, hr1, hl2, hb1⟩
            have HC2 : Hid (w1.ownsRow wr.heap.size 3 1 (.slice A2 i c2) i ((wX X (k + 1)).map I)) := Lib.hid hl2
            have HB1 := Lib.hid hb1
            have KS : Hid (∀ W, Below w1.heap.size w1 W → W.cell? ⟨gb, 2, none⟩ = some (.slice (some ⟨gl, 0, none⟩) 9 9)) := Lib.hid fun W hW => by
              have hx := (HI.out.box.below hb1 HI.out.box.lt)
              exact (hx.below hW hx.lt).cell 2
            have CB : Hid (∀ W, Below w1.heap.size w1 W → Calls Try.prog 67 #[.slice A1 i c1] W (NewBits W (i : Int) (wordsOf (wrow X k)) true)) := Lib.hid fun W hW => by
              have hrl : (wrow X k).length = i := by rw [wrow_len, Hl.out]
              have hcap := own_cap hr1
              have c := implOf_any A1 c1 (wrow X k) W ((Lies.of_own hr1).below hW) (by omega) (by omega) hcap.2
              rw [hrl] at c
              exact c.mono fun _ _ h => newBits_ok (wrow_bits X k) hrl (by omega) h
            have HSt : Hid (∀ (w2 : World) (Ab : Option Addr) (cb : Nat), Below w1.heap.size w1 w2 → w2.ownsRow wr.heap.size 123 1 (.slice Ab (wordsOf (wrow X k)).length cb) (wordsOf (wrow X k)).length ((wordsOf (wrow X k)).map U) →
                WoM w ((w2.setCell ⟨gl, k * 2, none⟩ (.int .i64 i)).setCell ⟨gl, k * 2 + 1, none⟩ (.slice Ab (wordsOf (wrow X k)).length cb)) i X gz gl gb k wr.heap.size A2 c2 Ab cb ∧ w2.frozen? ⟨gl, k * 2, none⟩ = false ∧ w2.frozen? ⟨gl, k * 2 + 1, none⟩ = false ∧ (∃ y, w2.cell? ⟨gl, k * 2, none⟩ = some y) ∧ (∃ y, w2.cell? ⟨gl, k * 2 + 1, none⟩ = some y) ∧ gl < w2.heap.size) := Lib.hid fun w2 Ab cb hb ho => by
              have hb2 := below_then HB1.out hb
              obtain ⟨cs, Q, h1, _, h3⟩ := HI.out.lev
              have hx : Box w2 gl 44 cs := h1.box.below hb2 h1.box.lt
              exact ⟨HI.out.mid hlt hb2 ho (own_below HC2.out hb (Nat.le_refl _)), hx.frozen _, hx.frozen _, ⟨_, (hx.cell _).trans (Array.getElem?_eq_getElem (by omega))⟩, ⟨_, (hx.cell _).trans (Array.getElem?_eq_getElem (by omega))⟩, hx.lt⟩
            have hne1 : ¬ gb = gl := HI.out.apart.1
            have hne2 : ¬ gl = gb := fun e => hne1 e.symm
            have inv : Below w1.heap.size w1 w1.drew := (Below.refl _ _).drew
            have z2 := KS.out _ inv
            clear hr1 hl2 hb1 CS
            go_wp2_with fail
            go_region_held3 (fun w' => w'.cell? ⟨gb, 2, none⟩ = some (.slice (some ⟨gl, 0, none⟩) 9 9)) (first | exact KS.out _ inv | (go_keep; done) | assumption) (first | (go_at_call 67; (with_reducible refine Calls.mono (CB.out _ inv) ?_); rintro e w2 ⟨Ab, cb, rfl, ho2, hb2⟩; replace ho2 := own_mono ho2 (Nat.le_trans HB1.out.size inv.size); replace inv := below_then inv hb2; obtain ⟨HM, f0, f1, ⟨y0, hy0⟩, ⟨y1, hy1⟩, hgl⟩ := HSt.out w2 Ab cb inv ho2; replace HM := Lib.hid HM; have z2' := KS.out _ inv; clear ho2 hb2))
            clear inv f0 f1 hy0 hy1 hgl z2 z2' KS CB HSt HB1 HC2 HI hne1 hne2
            generalize (w2.setCell ⟨gl, k * 2, none⟩ (.int .i64 i)).setCell ⟨gl, k * 2 + 1, none⟩ (.slice Ab (wordsOf (wrow X k)).length cb) = W3 at *
            obtain ⟨zz, hzz⟩ : ∃ zz, (wlow (8 - k) (wX X k)).length = zz := ⟨_, rfl⟩
            have CR : Hid (∀ W, Below W3.heap.size W3 W → Calls Try.prog 68 #[.agg #[.int .i64 i, .slice Ab (wordsOf (wrow X k)).length cb], .int .i64 0, .int .i64 i] W fun e w' => e = .returned (.int .i64 (zz : Int)) ∧ Below W.heap.size W w') := Lib.hid fun W hW => by
              have hrl : (wrow X k).length = i := by rw [wrow_len, Hl.out]
              have hcap := own_cap HM.out.words
              have c := implRank_any (i : Int) Ab cb (wordsOf (wrow X k)) 0 (i : Int) W ((Lies.of_own HM.out.words).below hW) (wordsOf_lt (wrow X k) (wrow_bits X k)) hcap.1 hcap.2
              rw [show rankV (i : Int) (wordsOf (wrow X k)) 0 (i : Int) = (zz : Int) by
                have := bit_val i (wordsOf (wrow X k)) 0 i (by omega) (wv_ok i (wrow X k) (wrow_bits X k) hrl (by omega)) (Nat.le_refl _)
                rw [← hzz, zer_cnt X k, Hl.out]
                exact this] at c
              exact c
            have HDn : Hid (∀ W, Below W3.heap.size W3 W → WoI w (W.setCell ⟨gz, k, none⟩ (.int .i64 (zz : Int))) i X gz gl gb (k + 1) A2 ∧ W.cell? ⟨gz, k, none⟩ = some (I 0) ∧ W.frozen? ⟨gz, k, none⟩ = false ∧ gz < W.heap.size) := Lib.hid fun W hW => by
              have h := (HM.out.more hW).done hlt
              rw [hzz] at h
              exact ⟨h, (HM.out.more hW).slot hlt⟩
            have HK : Hid (∀ W, Below W3.heap.size W3 W → W.cell? ⟨gb, 0, none⟩ = some (.int .i64 i) ∧ W.cell? ⟨gb, 1, none⟩ = some (.slice (some ⟨gz, 0, none⟩) 9 9) ∧ W.cell? ⟨gb, 2, none⟩ = some (.slice (some ⟨gl, 0, none⟩) 9 9) ∧ W.cell? ⟨gl, k * 2, none⟩ = some (.int .i64 i) ∧ W.cell? ⟨gl, k * 2 + 1, none⟩ = some (.slice Ab (wordsOf (wrow X k)).length cb)) := Lib.hid fun W hW => (HM.out.more hW).cells
            obtain ⟨wl, hwl⟩ : ∃ wl, (wordsOf (wrow X k)).length = wl := ⟨_, rfl⟩
            rw [hwl] at CR HK
            rw [hwl]
            have hne1 : ¬ gb = gz := fun e => tbox_apart HM.out.box (own_typed HM.out.zer rfl).2.2.choose_spec (by decide) e
            have hne3 : ¬ gl = gz := by
              obtain ⟨cs, Q, h1, _⟩ := HM.out.lev
              exact fun e => tbox_apart h1.box (own_typed HM.out.zer rfl).2.2.choose_spec (by decide) e
            have hne2 : ¬ gz = gb := fun e => hne1 e.symm
            have hne4 : ¬ gz = gl := fun e => hne3 e.symm
            have inv : Below W3.heap.size W3 W3.drew := (Below.refl _ _).drew
            obtain ⟨z0, z1, z2, z3, z4⟩ := HK.out _ inv
            clear HM hwl hzz
            go_wp2_with fail
            go_region_held3 (fun w' => w'.cell? ⟨gb, 0, none⟩ = some (.int .i64 i) ∧ w'.cell? ⟨gb, 1, none⟩ = some (.slice (some ⟨gz, 0, none⟩) 9 9) ∧ w'.cell? ⟨gb, 2, none⟩ = some (.slice (some ⟨gl, 0, none⟩) 9 9) ∧ w'.cell? ⟨gl, k * 2, none⟩ = some (.int .i64 i) ∧ w'.cell? ⟨gl, k * 2 + 1, none⟩ = some (.slice Ab wl cb)) (first | exact HK.out _ inv | (go_keep; done) | (refine ⟨?_, ?_, ?_, ?_, ?_⟩ <;> assumption)) (first | (go_at_call 68; (with_reducible refine Calls.mono (CR.out _ inv) ?_); rintro e w5 ⟨rfl, hb5⟩; replace inv := below_then inv hb5; obtain ⟨HD, hy, hf, hgl⟩ := HDn.out w5 inv; replace HD := Lib.hid HD; obtain ⟨q0, q1, q2, q3, q4⟩ := HK.out _ inv; clear hb5))
            clear inv hy hf hgl q0 q1 q2 q3 q4 z0 z1 z2 z3 z4 hne1 hne2 hne3 hne4 HK HDn CR
            go_wp2
            go_roundw
            case rel => exact ⟨k + 1, A2, c2, by omega, by go_num, rfl, HD⟩
            case measure => simp [intOf]; omega
          · obtain ⟨K, hK⟩ : ∃ K, K = k := ⟨_, rfl⟩
            subst hK
            have hK9 : K = 9 := by omega
            have HW : Hid (WoI w wr i X gz gl gb 9 A) := Lib.hid (by have h := HI.out; rw [hK9] at h; exact h)
            have hx := HW.out.box
            have hr := HW.out.res
            have x0 := hx.cell 0
            have x1 := hx.cell 1
            have x2 := hx.cell 2
            have xl := hx.lt
            have r0 := hr.cell 0
            have r1 := hr.cell 1
            have r2 := hr.cell 2
            have f0 := hr.frozen 0
            have f1 := hr.frozen 1
            have f2 := hr.frozen 2
            have rl := hr.lt
            have hlt0 : ¬ ((K : Int) < 9) := by omega
            clear hK9 HI hx hr
            go_wp2
            refine bodyPost_ret (v := .tuple #[.agg #[.int .i64 i, .slice (some ⟨gz, 0, none⟩) 9 9, .slice (some ⟨gl, 0, none⟩) 9 9], .bool true]) (by simp [results, Try.results22, go_sem, r0, r1, r2]) rfl ?_
            have HWv := HW.out.wave Hl.out HX.out rfl
            exact ⟨_, rfl, HWv⟩

end Go.Proofs.Ytoehgcakfblblaa

/- WaveOf of the program for lists that have no wave. -/
namespace Go.Proofs.Ytoehgcakfblblaa
open Go.RowKit
set_option maxRecDepth 100000

/-- What WaveOf is to return. -/
def WaveOfPost (X : List Int) (w : World) (e : Ending) (w' : World) : Prop :=
  (okW X = true ∧ ∃ v, e = .returned (.tuple #[v, .bool true]) ∧ WvO w' w.heap.size w'.heap.size X.length (wzer X) (levV X) v ∧ Below w.heap.size w w') ∨
  (okW X = false ∧ e = .returned (.tuple #[.agg #[.int .i64 0, .slice none 0 0, .slice none 0 0], .bool false]) ∧ Below w.heap.size w w')

set_option maxHeartbeats 800000 in
theorem implWaveOf_long (A : Option Addr) (c n : Nat) (w : World) (hn : 1000 < n) (hn2 : n ≤ 9223372036854775807) :
    Calls Try.prog 22 #[.slice A n c] w fun e w' => e = .returned (.tuple #[.agg #[.int .i64 0, .slice none 0 0, .slice none 0 0], .bool false]) ∧ Below w.heap.size w w' := by
  have t0 : decide ((1000 : Int) < (n : Int)) = true := by simp; omega
  have hr := Box.made w 27 #[.int .i64 0, .slice none 0 0, .slice none 0 0]
  have r0 := hr.cell 0
  have r1 := hr.cell 1
  have r2 := hr.cell 2
  have f0 := hr.frozen 0
  have f1 := hr.frozen 1
  have f2 := hr.frozen 2
  have rl := hr.lt
  have HB : Hid (Below w.heap.size w (w.alloc (.cells #[.int .i64 0, .slice none 0 0, .slice none 0 0] 27))) := Lib.hid ((Below.refl _ _).alloc (Nat.le_refl _) _)
  clear hr
  go_enter Try.func22, Try.ntmps22
  go_wp2
  refine bodyPost_ret (v := .tuple #[.agg #[.int .i64 0, .slice none 0 0, .slice none 0 0], .bool false]) (by simp [results, Try.results22, go_sem, r0, r1, r2]) rfl ?_
  exact ⟨rfl, HB.out⟩

set_option maxHeartbeats 1600000 in
theorem implWaveOf_no (A : Option Addr) (c n : Nat) (X : List Int) (w : World) (hL : Lies w I A X) (hl : X.length = n) (hn : n ≤ 1000) (hno : ¬ ∀ x ∈ X, 0 ≤ x ∧ x ≤ 511) :
    Calls Try.prog 22 #[.slice A n c] w fun e w' => e = .returned (.tuple #[.agg #[.int .i64 0, .slice none 0 0, .slice none 0 0], .bool false]) ∧ Below w.heap.size w w' := by
  have HL := Lib.hid hL
  have Hl := Lib.hid hl
  have HN := Lib.hid hno
  have t0 : decide ((1000 : Int) < (n : Int)) = false := by simp; omega
  have hr := Box.made w 27 #[.int .i64 0, .slice none 0 0, .slice none 0 0]
  have r0 := hr.cell 0
  have r1 := hr.cell 1
  have r2 := hr.cell 2
  have f0 := hr.frozen 0
  have f1 := hr.frozen 1
  have f2 := hr.frozen 2
  have rl := hr.lt
  have HB : Hid (Below w.heap.size w (w.alloc (.cells #[.int .i64 0, .slice none 0 0, .slice none 0 0] 27))) := Lib.hid ((Below.refl _ _).alloc (Nat.le_refl _) _)
  have HB0 : Hid (Below w.heap.size w (w.alloc (.cells #[.int .i64 0, .slice none 0 0, .slice none 0 0] 27))) := Lib.hid ((Below.refl _ _).alloc (Nat.le_refl _) _)
  clear hr hL hl hno
  go_enter Try.func22, Try.ntmps22
  go_wp2
  go_loop [5, 15] (fun x t => ∃ i : Nat, i ≤ n ∧ t = .int .i64 i ∧ Hid (∀ y ∈ X.take i, 0 ≤ y ∧ y ≤ 511)) (fun _ t => n - (intOf t).toNat)
  case atStart => exact ⟨0, Nat.zero_le _, rfl, Lib.hid fun y hy => by simp at hy⟩
  case round =>
    obtain ⟨i, hi, rfl, HG⟩ := hrel
    by_cases hlt : i < n
    · obtain ⟨b, o, x, hA, hbl, hx, hc⟩ := (HL.out.below HB0.out).at_ (i := i) (by rw [Hl.out]; exact hlt)
      subst hA
      have CB := Lib.hid (isWave_any x (w.alloc (.cells #[.int .i64 0, .slice none 0 0, .slice none 0 0] 27)))
      have i0 : (0 : Int) ≤ (i : Int) := by omega
      have i1 : (i : Int) < (n : Int) := by omega
      have HX := Lib.hid hx
      clear hx
      by_cases hok : 0 ≤ x ∧ x ≤ 511
      · rw [decide_eq_true hok] at CB
        have HG2 : Hid (∀ y ∈ X.take (i + 1), 0 ≤ y ∧ y ≤ 511) := Lib.hid fun y hy => by
          rw [List.take_add_one, HX.out, Option.toList_some] at hy
          rcases List.mem_append.1 hy with h | h
          · exact HG.out y h
          · obtain rfl : y = x := by simpa using h
            exact hok
        clear hok HG
        go_wp2_with fail
        refine CB.out.mono ?_
        rintro e w1 ⟨rfl, rfl⟩
        go_wp2
        go_round
        case rel => exact ⟨i + 1, by omega, by go_num, HG2⟩
        case measure => simp [intOf]; omega
      · rw [decide_eq_false hok] at CB
        clear hok HG
        go_wp2_with fail
        refine CB.out.mono ?_
        rintro e w1 ⟨rfl, rfl⟩
        go_wp2
        refine bodyPost_ret (v := .tuple #[.agg #[.int .i64 0, .slice none 0 0, .slice none 0 0], .bool false]) (by simp [results, Try.results22, go_sem, r0, r1, r2]) rfl ?_
        exact ⟨rfl, HB.out⟩
    · exfalso
      refine HN.out fun y hy => HG.out y ?_
      rw [List.take_of_length_le (by rw [Hl.out]; omega)]
      exact hy

theorem implWaveOf_any (A : Option Addr) (c : Nat) (X : List Int) (w : World) (hL : Lies w I A X) (hn : X.length ≤ 9223372036854775807) :
    Calls Try.prog 22 #[.slice A X.length c] w (WaveOfPost X w) := by
  by_cases h1 : X.length ≤ 1000
  · by_cases h2 : ∀ x ∈ X, 0 ≤ x ∧ x ≤ 511
    · exact (implWaveOf_in A c X.length X w hL rfl h1 h2).mono fun e w' h => .inl ⟨(okW_iff X).2 ⟨h1, h2⟩, h⟩
    · refine (implWaveOf_no A c X.length X w hL rfl h1 h2).mono fun e w' h => .inr ⟨?_, h⟩
      cases h3 : okW X
      · rfl
      · exact absurd ((okW_iff X).1 h3).2 h2
  · refine (implWaveOf_long A c X.length w (by omega) hn).mono fun e w' h => .inr ⟨?_, h⟩
    cases h3 : okW X
    · rfl
    · exact absurd ((okW_iff X).1 h3).1 h1

end Go.Proofs.Ytoehgcakfblblaa
