/- The draw of a bit vector that may not be valid. -/
import Derived.Test.YtanllfidbhjboaaDoorDraw6d
import Derived.Test.YtanllfidbhjboaaDoorNewB
import Derived.Deep.RegionWith
import Derived.Deep.RegionHeld3
import Derived.Deep.RegionLaw
import Derived.Deep.AppendLies
namespace Go.Proofs.YtanllfidbhjboaaDoor
open Go.RowKit
set_option maxRecDepth 100000

theorem resW_lt (B : List Int) : ∀ x ∈ resW B, x < 2 ^ 64 := by
  unfold resW
  split
  · rename_i h
    exact wordsOf_lt B ((okBits_iff B).1 h).2
  · simp
theorem resN_le (B : List Int) : 0 ≤ resN B ∧ resN B ≤ 5000 := by
  unfold resN
  split
  · rename_i h
    have := ((okBits_iff B).1 h).1
    omega
  · omega

/-- A drawn bit vector. -/
def DrewB (w : World) (g : Nat) (A : Option Addr) (c : Nat) (D : List Nat) (K : Nat) (e : Ending) (w' : World) : Prop :=
  ∃ (N : Int) (A' : Option Addr) (c' : Nat) (L : List Nat), e = .returned (.agg #[.int .i64 N, .slice A' L.length c']) ∧ w'.ownsRow w.heap.size 64 1 (.slice A' L.length c') L.length (L.map U) ∧ (∀ x ∈ L, x < 2 ^ 64) ∧ L.length ≤ 80 ∧ (-9223372036854775808 ≤ N ∧ N ≤ 9223372036854775807) ∧ Cur w' g A c D K ∧ w.grownBy w' (some g)

/-- What holds of the world once the vector is there. -/
structure BadInv (w : World) (g : Nat) (A : Option Addr) (c : Nat) (D : List Nat) (K bv : Nat) (N : Int) (A' : Option Addr) (c' : Nat) (L : List Nat) (W : World) : Prop where
  cur : CurB W g A c D K w.heap.size
  res : Box W w.heap.size 26 #[.int .i64 0, .slice none 0 0]
  box : Box W bv 26 #[.int .i64 N, .slice A' L.length c']
  own : W.ownsRow (w.heap.size + 1) 64 1 (.slice A' L.length c') L.length (L.map U)
  apart : (Value.slice A' L.length c').ownBlock ≠ some bv
  lt : w.heap.size < bv
  small : (∀ x ∈ L, x < 2 ^ 64) ∧ L.length ≤ 80 ∧ (-9223372036854775808 ≤ N ∧ N ≤ 9223372036854775807)
  grown : w.grownBy W (some g)

theorem BadInv.past {w : World} {g : Nat} {A : Option Addr} {c : Nat} {D : List Nat} {K K' bv : Nat} {N : Int} {A' : Option Addr} {c' : Nat} {L : List Nat} {W W' : World} (h : BadInv w g A c D K bv N A' c' L W) (hc : Cur W' g A c D K') (hg : W.grownBy W' (some g)) : BadInv w g A c D K' bv N A' c' L W' :=
  have hgB := h.cur.gB
  have hlt := h.lt
  ⟨h.cur.to hc, h.res.grown hg (fun e => by have := Option.some.inj e; omega), h.box.grown hg (fun e => by have := Option.some.inj e; omega), own_past6 h.own hg (by omega), h.apart, h.lt, h.small, h.grown.trans hg⟩

/-- The end: the vector is handed back. -/
theorem BadInv.finish {w : World} {g : Nat} {A : Option Addr} {c : Nat} {D : List Nat} {K bv : Nat} {N : Int} {A' : Option Addr} {c' : Nat} {L : List Nat} {W : World} (h : BadInv w g A c D K bv N A' c' L W) (v0 v1 : Value) :
    DrewB w g A c D K (.returned (.agg #[.int .i64 N, .slice A' L.length c'])) ((W.setCell ⟨w.heap.size, 0, none⟩ v0).setCell ⟨w.heap.size, 1, none⟩ v1) := by
  have hg1 : W.grownBy ((W.setCell ⟨w.heap.size, 0, none⟩ v0).setCell ⟨w.heap.size, 1, none⟩ v1) (some w.heap.size) := (grownBy_setCell _ _ _ _).trans (grownBy_setCell _ _ _ _)
  refine ⟨N, A', c', L, rfl, ?_, h.small.1, h.small.2.1, h.small.2.2, ?_, ?_⟩
  · exact own_mono (own_past6 h.own hg1 (by omega)) (by omega)
  · exact (h.cur.grow hg1 fun j hj => by have := Option.some.inj hj; omega).cur
  · exact grown_two6 h.grown hg1 fun j hj => by have := Option.some.inj hj; omega

theorem BadInv.drew {w : World} {g : Nat} {A : Option Addr} {c : Nat} {D : List Nat} {K bv : Nat} {N : Int} {A' : Option Addr} {c' : Nat} {L : List Nat} {W : World} (h : BadInv w g A c D K bv N A' c' L W) : BadInv w g A c D K bv N A' c' L W.drew :=
  h.past (h.cur.cur.turn (Nat.le_refl _) fun _ _ _ => rfl) ⟨rfl, rfl, rfl, Nat.le_refl _, fun _ _ _ => rfl⟩
theorem pick_lt {q : Nat} {n : Int} (hq : 2 ≤ n → (q : Int) < n) (hq0 : n < 2 → q = 0) (hn : 0 < n) : (q : Int) < n := by
  by_cases h : 2 ≤ n
  · exact hq h
  · have := hq0 (by omega)
    omega
theorem BadInv.boxOff {w : World} {g : Nat} {A : Option Addr} {c : Nat} {D : List Nat} {K bv : Nat} {N : Int} {gw c' : Nat} {L : List Nat} {W : World} (h : BadInv w g A c D K bv N (some ⟨gw, 0, none⟩) c' L W) (q : Nat) (v : Value) :
    (W.setCell ⟨gw, q, none⟩ v).cell? ⟨bv, 1, none⟩ = some (.slice (some ⟨gw, 0, none⟩) L.length c') :=
  (h.box.off (p := ⟨gw, q, none⟩) (fun e => h.apart (congrArg some e.symm)) v).cell 1
/-- One word is set anew. -/
theorem BadInv.word {w : World} {g : Nat} {A : Option Addr} {c : Nat} {D : List Nat} {K bv : Nat} {N : Int} {gw c' : Nat} {L : List Nat} {W : World} (h : BadInv w g A c D K bv N (some ⟨gw, 0, none⟩) c' L W) (q x : Nat) (hx : x < 2 ^ 64) :
    BadInv w g A c D K bv N (some ⟨gw, 0, none⟩) c' (L.set q x) (W.setCell ⟨gw, q, none⟩ (U x)) := by
  have hs := h.own.stored q (U x)
  have hge := (h.own.lt gw rfl).1
  have hap : gw ≠ bv := fun e => h.apart (congrArg some e)
  refine ⟨h.cur.grow hs.2 fun j hj => ?_, h.res.off (by simp; omega) _, ?_, ?_, ?_, h.lt, ⟨fun y hy => ?_, by rw [List.length_set]; exact h.small.2.1, h.small.2.2⟩, ?_⟩
  · have := Option.some.inj hj
    omega
  · rw [List.length_set]
    exact h.box.off (fun e => hap e.symm) _
  · rw [List.length_set, List.map_set]
    exact hs.1
  · rw [List.length_set]
    exact h.apart
  · rcases List.mem_or_eq_of_mem_set hy with h1 | h1
    · exact h.small.1 y h1
    · rw [h1]; exact hx
  · exact grown_two6 h.grown hs.2 fun j hj => by have := Option.some.inj hj; omega

/-- The number is set anew. -/
theorem BadInv.num {w : World} {g : Nat} {A : Option Addr} {c : Nat} {D : List Nat} {K bv : Nat} {N : Int} {A' : Option Addr} {c' : Nat} {L : List Nat} {W : World} (h : BadInv w g A c D K bv N A' c' L W) (M : Int) (hM : -9223372036854775808 ≤ M ∧ M ≤ 9223372036854775807) :
    BadInv w g A c D K bv M A' c' L (W.setCell ⟨bv, 0, none⟩ (.int .i64 M)) := by
  have hs : W.grownBy (W.setCell ⟨bv, 0, none⟩ (.int .i64 M)) (some bv) := grownBy_setCell _ _ _ _
  have hlt := h.lt
  refine ⟨h.cur.grow hs fun j hj => ?_, h.res.off (by simp; omega) _, h.box.put 0 _, own_turn6 h.own fun k hk => hs.block k (h.own.lt k hk).2 fun e => h.apart (hk.trans e), h.apart, h.lt, ⟨h.small.1, h.small.2.1, hM⟩, ?_⟩
  · have := Option.some.inj hj
    omega
  · exact grown_two6 h.grown hs fun j hj => by have := Option.some.inj hj; omega
theorem BadInv.alloc {w : World} {g : Nat} {A : Option Addr} {c : Nat} {D : List Nat} {K bv : Nat} {N : Int} {A' : Option Addr} {c' : Nat} {L : List Nat} {W : World} (h : BadInv w g A c D K bv N A' c' L W) (o : Obj) : BadInv w g A c D K bv N A' c' L (W.alloc o) :=
  h.past (cur_alloc h.cur.cur o) (World.grownBy_alloc W o (some g))
/-- One word more. -/
theorem BadInv.push {w : World} {g : Nat} {A : Option Addr} {c : Nat} {D : List Nat} {K bv : Nat} {N : Int} {A' : Option Addr} {c' : Nat} {L : List Nat} {W W' : World} (h : BadInv w g A c D K bv N A' c' L W) (x gn cap : Nat) (hx : x < 2 ^ 64) (hL : L.length ≤ 79)
    (hown : W'.ownsRow (w.heap.size + 1) 64 1 (.slice (some ⟨gn, 0, none⟩) (L.length + 1) cap) (L.length + 1) (L.map U ++ [U x])) (hgrow : W.grownBy W' (Value.slice A' L.length c').ownBlock) (hat : (Value.slice A' L.length c').ownBlock = some gn ∨ gn = W.heap.size) :
    BadInv w g A c D K bv N (some ⟨gn, 0, none⟩) cap (L ++ [x]) (W'.setCell ⟨bv, 1, none⟩ (.slice (some ⟨gn, 0, none⟩) (L.length + 1) cap)) := by
  have hs : W'.grownBy (W'.setCell ⟨bv, 1, none⟩ (.slice (some ⟨gn, 0, none⟩) (L.length + 1) cap)) (some bv) := grownBy_setCell _ _ _ _
  have hlt := h.lt
  have hbl := h.box.lt
  have e1 : (L ++ [x]).length = L.length + 1 := by simp
  have e2 : (L ++ [x]).map U = L.map U ++ [U x] := by simp
  have hne : gn ≠ bv := by
    rcases hat with h1 | h1
    · intro e
      exact h.apart (h1.trans (congrArg some e))
    · omega
  have hap : (Value.slice (some ⟨gn, 0, none⟩) (L.length + 1) cap).ownBlock ≠ some bv := fun e => hne (Option.some.inj e)
  refine ⟨(h.cur.grow hgrow fun j hj => ?_).grow hs fun j hj => ?_, (h.res.grown hgrow (own_apart h.own (by omega))).off (by simp; omega) _, ?_, ?_, ?_, h.lt, ⟨fun y hy => ?_, by rw [e1]; omega, h.small.2.2⟩, ?_⟩
  · have := (h.own.lt j hj).1
    omega
  · have := Option.some.inj hj
    omega
  · rw [e1]
    exact (h.box.grown hgrow h.apart).put 1 _
  · rw [e1, e2]
    exact own_turn6 hown fun k hk => hs.block k (hown.lt k hk).2 fun e => hap (hk.trans e)
  · rw [e1]
    exact hap
  · rcases List.mem_append.1 hy with h1 | h1
    · exact h.small.1 y h1
    · rw [List.mem_singleton.1 h1]; exact hx
  · exact grown_two6 (grown_two6 h.grown hgrow fun j hj => by have := (h.own.lt j hj).1; omega) hs fun j hj => by have := Option.some.inj hj; omega

/-- The step of the region that appends one word. -/
theorem step_pushU {ops : Array Oper} {o : Oper} {a : Act} {K : Act → World → Prop} {Q : Exit → Act → World → Prop} {E : Prop} (hgd : o.guard = none) (s x : Operand)
    (ho : o.op = .call { callee := .builtin .append, args := #[s, x], argTypes := #[24, 24] }) (base : Nat) (W : World) (v : Value) (L : List Nat) (hs : a.eval s = v)
    (hown : W.ownsRow base 64 1 v L.length (L.map U)) (q : Nat) (hx : a.eval x = .slice (some ⟨W.heap.size, 0, none⟩) 1 1) (hb : base ≤ W.heap.size) (hl : L.length ≤ 79)
    (h : ∀ g cap w', w'.ownsRow base 64 1 (.slice (some ⟨g, 0, none⟩) (L.length + 1) cap) (L.length + 1) (L.map U ++ [U q]) → (W.alloc (Obj.cells #[.int .u64 (q : Int)] 64)).grownBy w' v.ownBlock → (v.ownBlock = some g ∨ g = (W.alloc (Obj.cells #[.int .u64 (q : Int)] 64)).heap.size) → K (a.put o.dst (.slice (some ⟨g, 0, none⟩) (L.length + 1) cap)) w') :
    if Region.wanted o (yielded ops a.tmps) = true then Oper.wp Tryd.prog o a (W.alloc (Obj.cells #[.int .u64 (q : Int)] 64)) K Q else E := by
  obtain ⟨i0, hi, hz0, hz1, hz2⟩ := info_parts Tryd.infoU64
  refine step_append_lies _ hgd s x 24 ho base 64 i0 (.int .u64 0) 1 8 Tryd.underlying24 hi hz0 hz1 hz2 rfl (by decide) v L.length (L.map U) hs (hown.alloc _) ⟨W.heap.size, 0, none⟩ 1 1 [.int .u64 (q : Int)] hx rfl (cell_one_new _ _ _) (ints_oneCell .u64 [_]) (by decide) (by unfold maxLen; omega) (by omega) (by simp; omega) _ rfl ?_
  intro g cap w' h1 h2 h3 _
  exact h g cap w' h1 h2 h3

theorem leafcut {w : World} {g : Nat} {A : Option Addr} {c : Nat} {D : List Nat} {K bv : Nat} {N : Int} {A' : Option Addr} {c' : Nat} {L : List Nat} {W : World} {Q : World → Prop} (h : BadInv w g A c D K bv N A' c' L W) (rest : ∀ W', BadInv w g A c D K bv N A' c' L W' → Q W') : Q W := rest W h
theorem cut7 {Q : Prop} {I : Int → World → Prop} {R : Int → Nat → Int → Nat → World → Prop} (main : (∀ x q y tb W, I y W → R x q y tb W) → Q) (rest : ∀ x q y tb W, I y W → R x q y tb W) : Q := main rest
/-- The table of three numbers. -/
theorem tab3 {W : World} {b : Nat} (x N : Int) (hx : -9223372036854775808 ≤ x ∧ x ≤ 9223372036854775807) (hN : 0 ≤ N ∧ N ≤ 5000) (q : Nat) (hq : (q : Int) < 3) (h : Box W b 3 #[.int .i64 x, .int .i64 (N + 1), .int .i64 (N - 1)]) :
    ∃ y, (-9223372036854775808 ≤ y ∧ y ≤ 9223372036854775807) ∧ W.cell? ⟨b, q, none⟩ = some (.int .i64 y) := by
  obtain ⟨y, hy, hc⟩ := table_at (L := [x, N + 1, N - 1]) h (i := q) (by simp; omega)
  refine ⟨y, ?_, hc⟩
  simp at hy
  omega

set_option maxRecDepth 100000 in
set_option maxHeartbeats 1600000 in
theorem badBits_any (g : Nat) (A : Option Addr) (c : Nat) (D : List Nat) (K : Nat) (w : World) (h : Cur w g A c D K) (hK : K ≤ 4611686018427200000) :
    Calls Tryd.prog 28 #[.pointer (some ⟨g, 0, none⟩)] w (DrewB w g A c D (K + 6010)) := by
  have cb := CurB.of h
  have hgl := h.lt
  go_enter Tryd.func28, Tryd.ntmps28
  go_wp2_with fail
  refine (row_any g A c D K _ (cur_alloc h _) (by omega)).mono ?_
  rintro e w1 ⟨A1, c1, L1, rfl, ho1, hL1, hc1, hg1⟩
  have hr1 := (Box.made w 26 #[.int .i64 0, .slice none 0 0]).grown hg1 (fun e => by have := Option.some.inj e; omega)
  replace cb := cb.to hc1
  have HG1 := Lib.hid ((World.grownBy_alloc w (Obj.cells #[.int .i64 0, .slice none 0 0] 26) (some g)).trans hg1)
  have hs1 : w.heap.size + 1 ≤ w1.heap.size := by have := hg1.size; simpa using this
  clear h hc1 hg1
  go_wp2_with fail
  refine (specOf_any A1 c1 L1 w1 (Lies.of_own ho1) (by omega)).mono ?_
  rintro e w2 hp
  obtain ⟨A2, c2, rfl, ho2, hb2⟩ := newBits_of hp
  have hN := resN_le L1
  have hWl := resW_len L1
  have hWb := resW_lt L1
  generalize resN L1 = N at *
  generalize resW L1 = Ws at *
  have inv : BadInv w g A c D (K + 6000) w2.heap.size N A2 c2 Ws (w2.alloc (Obj.cells #[.int .i64 N, .slice A2 Ws.length c2] 26)) := by
    have hb3 : Below w1.heap.size w1 (w2.alloc (Obj.cells #[.int .i64 N, .slice A2 Ws.length c2] 26)) := hb2.alloc hb2.size _
    have hg3 : w1.grownBy (w2.alloc (Obj.cells #[.int .i64 N, .slice A2 Ws.length c2] 26)) (some g) := ⟨hb3.os, hb3.tape, hb3.output, hb3.size, fun k hk _ => hb3.block k hk⟩
    have hs2 := hb2.size
    refine ⟨cb.to (cb.cur.below hb3), hr1.below hb3 (by omega), Box.made _ _ _, own_mono (ho2.alloc _) (by omega), fun e => ?_, by omega, ⟨hWb, by omega, by omega⟩, HG1.out.trans hg3⟩
    have := (ho2.lt _ e).2
    omega
  have HN := Lib.hid hN
  clear hp ho1 ho2 hb2 hr1 cb HG1 hWb hN hL1
  go_wp2_with fail
  generalize w2.alloc (Obj.cells #[.int .i64 N, .slice A2 Ws.length c2] 26) = w3 at *
  generalize w2.heap.size = bv at *
  refine (pick_any g A c D (K + 6000) 14 w3 inv.cur.cur (by omega) (by omega)).mono ?_
  rintro e w4 ⟨r, rfl, _, _, hc4, hg4⟩
  replace inv := inv.past hc4 hg4
  clear hc4 hg4
  have f0 := inv.box.cell 0
  have f1 := inv.box.cell 1
  have q0 := inv.res.cell 0
  have q1 := inv.res.cell 1
  have qz0 := inv.res.frozen 0
  have qz1 := inv.res.frozen 1
  have hrl := inv.res.lt
  have hbl := inv.box.lt
  have hne := inv.lt
  simp only [List.getElem?_toArray, List.getElem?_cons_zero, List.getElem?_cons_succ] at f0 f1 q0 q1
  by_cases h0 : r = 0
  · have t0 : ((r : Int) == 0) = true := by rw [beq_iff_eq]; omega
    clear h0
    replace inv := inv.drew
    have hw1 : IntKind.i64.wrap (N + 1) = N + 1 := (IntKind.wrap_i64 _).trans (by have := HN.out; omega)
    have hw2 : IntKind.i64.wrap (N - 1) = N - 1 := (IntKind.wrap_i64 _).trans (by have := HN.out; omega)
    go_wp2_with fail
    apply cut7 (I := fun y W => BadInv w g A c D (K + 6000 + 4) bv y A2 c2 Ws W)
    case main =>
      intro key
      have HKey := Lib.hid key
      clear key
      go_region_law (first | (go_simp; go_at_call 31; (with_reducible refine Calls.mono (raw_any g A c D (K + 6000 + 1) _ ?_ (by omega)) ?_); exact inv.cur.cur; rintro e w5 ⟨x, rfl, hx, hc5, hg5⟩; replace inv := inv.past hc5 hg5; clear hc5 hg5; have HX := Lib.hid hx; clear hx; have k0 := inv.box.cell 0; simp only [List.getElem?_toArray, List.getElem?_cons_zero, List.getElem?_cons_succ] at k0; have kf := inv.box.frozen 0; have kl := inv.box.lt) | (go_simp; go_at_call 29; (with_reducible refine Calls.mono (pick_any g A c D (K + 6000 + 1) 3 _ ?_ (by omega) (by omega)) ?_); exact inv.cur.cur; rintro e w6 ⟨q, rfl, hq, hq0, hc6, hg6⟩; replace inv := inv.past hc6 hg6; clear hc6 hg6; have hq3 := pick_lt hq hq0 (by omega); clear hq hq0; have m0 := inv.box.cell 0; simp only [List.getElem?_toArray, List.getElem?_cons_zero, List.getElem?_cons_succ] at m0; have mf := inv.box.frozen 0; have ml := inv.box.lt) | (go_simp; go_at_call 31; (with_reducible refine Calls.mono (raw_any g A c D (K + 6000 + 1 + 1) _ ?_ (by omega)) ?_); exact inv.cur.cur; rintro e w5 ⟨x, rfl, hx, hc5, hg5⟩; replace inv := inv.past hc5 hg5; clear hc5 hg5; have HX := Lib.hid hx; clear hx; have k0 := inv.box.cell 0; simp only [List.getElem?_toArray, List.getElem?_cons_zero, List.getElem?_cons_succ] at k0; have kf := inv.box.frozen 0; have kl := inv.box.lt; obtain ⟨y, hy, hcell⟩ := tab3 x N HX.out HN.out q hq3 (Box.made w5 _ _); have HPa := Lib.hid ((inv.alloc (Obj.cells #[.int .i64 x, .int .i64 (N + 1), .int .i64 (N - 1)] 3)).num y hy); have HPa2 := Lib.hid ((inv.num y hy).alloc (Obj.cells #[.int .i64 x, .int .i64 (N + 1), .int .i64 (N - 1)] 3)); clear hy; replace inv := inv.alloc (Obj.cells #[.int .i64 x, .int .i64 (N + 1), .int .i64 (N - 1)] 3); have ka0 := inv.box.cell 0; simp only [List.getElem?_toArray, List.getElem?_cons_zero, List.getElem?_cons_succ] at ka0; have kaf := inv.box.frozen 0; have kal := inv.box.lt) | (go_simp; go_at_call 29; (with_reducible refine Calls.mono (pick_any g A c D (K + 6000 + 1 + 2) 3 _ ?_ (by omega) (by omega)) ?_); exact inv.cur.cur; rintro e w6 ⟨q, rfl, hq, hq0, hc6, hg6⟩; replace inv := inv.past hc6 hg6; clear hc6 hg6; have hq3 := pick_lt hq hq0 (by omega); clear hq hq0; have m0 := inv.box.cell 0; simp only [List.getElem?_toArray, List.getElem?_cons_zero, List.getElem?_cons_succ] at m0; have mf := inv.box.frozen 0; have ml := inv.box.lt; obtain ⟨y, hy, hcell⟩ := tab3 x N HX.out HN.out q hq3 (Box.made w6 _ _); have HPb := Lib.hid ((inv.alloc (Obj.cells #[.int .i64 x, .int .i64 (N + 1), .int .i64 (N - 1)] 3)).num y hy); have HPb2 := Lib.hid ((inv.num y hy).alloc (Obj.cells #[.int .i64 x, .int .i64 (N + 1), .int .i64 (N - 1)] 3)); clear hy; replace inv := inv.alloc (Obj.cells #[.int .i64 x, .int .i64 (N + 1), .int .i64 (N - 1)] 3); have ma0 := inv.box.cell 0; simp only [List.getElem?_toArray, List.getElem?_cons_zero, List.getElem?_cons_succ] at ma0; have maf := inv.box.frozen 0; have mal := inv.box.lt) | (go_simp; go_at_call 29; (with_reducible refine Calls.mono (pick_any g A c D (K + 6000 + 1 + 2) 3 _ ?_ (by omega) (by omega)) ?_); exact (inv.alloc (Obj.cells #[.int .i64 x, .int .i64 (N + 1), .int .i64 (N - 1)] 3)).cur.cur; rintro e w6 ⟨q, rfl, hq, hq0, hc6, hg6⟩; have hbt := (Box.made w5 3 #[.int .i64 x, .int .i64 (N + 1), .int .i64 (N - 1)]).grown hg6 (fun e => by have := Option.some.inj e; have := inv.cur.cur.lt; omega); replace inv := (inv.alloc (Obj.cells #[.int .i64 x, .int .i64 (N + 1), .int .i64 (N - 1)] 3)).past hc6 hg6; clear hc6 hg6; have hq3 := pick_lt hq hq0 (by omega); clear hq hq0; have m0 := inv.box.cell 0; simp only [List.getElem?_toArray, List.getElem?_cons_zero, List.getElem?_cons_succ] at m0; have mf := inv.box.frozen 0; have ml := inv.box.lt; obtain ⟨y, hy, hcell⟩ := tab3 x N HX.out HN.out q hq3 hbt; clear hbt; have HPc := Lib.hid (inv.num y hy); clear hy))
      all_goals
        clear hcell inv
        first
          | (with_reducible refine leafcut (Q := fun W => Exit.inBlock _ _ Exit.normal _ W) HPa.out ?_)
          | (with_reducible refine leafcut (Q := fun W => Exit.inBlock _ _ Exit.normal _ W) HPa2.out ?_)
          | (with_reducible refine leafcut (Q := fun W => Exit.inBlock _ _ Exit.normal _ W) HPb.out ?_)
          | (with_reducible refine leafcut (Q := fun W => Exit.inBlock _ _ Exit.normal _ W) HPb2.out ?_)
          | (with_reducible refine leafcut (Q := fun W => Exit.inBlock _ _ Exit.normal _ W) HPc.out ?_)
        intro w7 inv
        replace inv := inv.past (inv.cur.cur.more (K' := K + 6000 + 4) (by omega)) (World.grownBy.refl _ _)
        first
          | (generalize w5.heap.size = tb; exact HKey.out x q y tb w7 inv)
          | (generalize w6.heap.size = tb; exact HKey.out x q y tb w7 inv)
    case rest =>
      intro x q y tb w7 inv
      clear f0 f1 q0 q1 qz0 qz1 hrl hbl hne
      have f0 := inv.box.cell 0
      have f1 := inv.box.cell 1
      have q0 := inv.res.cell 0
      have q1 := inv.res.cell 1
      have qz0 := inv.res.frozen 0
      have qz1 := inv.res.frozen 1
      have hrl := inv.res.lt
      have hbl := inv.box.lt
      have hne := inv.lt
      simp only [List.getElem?_toArray, List.getElem?_cons_zero, List.getElem?_cons_succ] at f0 f1 q0 q1
      have HI := Lib.hid inv
      clear inv
      go_wp2
      refine bodyPost_ret (v := .agg #[.int .i64 y, .slice A2 Ws.length c2]) (by simp [results, Tryd.results28, go_sem, q0, q1]) rfl ?_
      have inv := HI.out
      exact (BadInv.finish (inv.past (inv.cur.cur.more (by omega)) (World.grownBy.refl _ _)) _ _)
  · have t0 : ((r : Int) == 0) = false := by rw [beq_eq_false_iff_ne]; omega
    by_cases h1 : r = 1
    · have t1 : ((r : Int) == 1) = true := by rw [beq_iff_eq]; omega
      clear h0 h1
      replace inv := inv.drew
      go_wp2_with fail
      go_region_law (first | (go_simp; go_at_call 29; (with_reducible refine Calls.mono (pick_any g A c D (K + 6000 + 1) 2 _ ?_ (by omega) (by omega)) ?_); exact inv.cur.cur; rintro e w5 ⟨q, rfl, hq, hq0, hc5, hg5⟩; replace inv := inv.past hc5 hg5; clear hc5 hg5; have k1 := inv.box.cell 1; simp only [List.getElem?_toArray, List.getElem?_cons_zero, List.getElem?_cons_succ] at k1; have hql := pick_lt hq hq0 (by omega); have hwr : IntKind.u64.wrap (q : Int) = (q : Int) := ((IntKind.wrap_u64 _).trans (by omega)); have hbl5 := inv.box.lt; have HB5 : Hid (w.heap.size + 1 ≤ w5.heap.size) := Lib.hid (by have := inv.box.lt; omega)) | (refine step_pushU rfl (.tmp 32) (.tmp 36) rfl (w.heap.size + 1) w5 (.slice A2 Ws.length c2) Ws rfl inv.own q rfl HB5.out hWl ?_; intro gn cap w6 hown hgrow hat; have HP := Lib.hid ((inv.alloc (Obj.cells #[.int .u64 (q : Int)] 64)).push q gn cap (by omega) hWl hown hgrow hat); have b1 := ((inv.alloc (Obj.cells #[.int .u64 (q : Int)] 64)).box.grown hgrow inv.apart).cell 1; have b1f := ((inv.alloc (Obj.cells #[.int .u64 (q : Int)] 64)).box.grown hgrow inv.apart).frozen 1; simp only [List.getElem?_toArray, List.getElem?_cons_zero, List.getElem?_cons_succ] at b1; clear hown hgrow hat))
      all_goals
        replace inv := HP.out
        clear HP f0 f1 q0 q1 qz0 qz1 hrl hbl hne hbl5 HB5 k1 b1 b1f
        generalize w6.setCell ⟨bv, 1, none⟩ (Value.slice (some ⟨gn, 0, none⟩) (Ws.length + 1) cap) = w7 at *
        have e1 : Hid ((Ws ++ [q]).length = Ws.length + 1) := Lib.hid (by simp)
        have f0 := inv.box.cell 0
        have f1 := inv.box.cell 1
        rw [e1.out] at f1
        have q0 := inv.res.cell 0
        have q1 := inv.res.cell 1
        have qz0 := inv.res.frozen 0
        have qz1 := inv.res.frozen 1
        have hrl := inv.res.lt
        have hbl := inv.box.lt
        have hne := inv.lt
        simp only [List.getElem?_toArray, List.getElem?_cons_zero, List.getElem?_cons_succ] at f0 f1 q0 q1
        have HI := Lib.hid inv
        clear inv
        go_wp2
        refine bodyPost_ret (v := .agg #[.int .i64 N, .slice (some ⟨gn, 0, none⟩) (Ws.length + 1) cap]) (by simp [results, Tryd.results28, go_sem, q0, q1]) rfl ?_
        have inv := HI.out
        rw [← e1.out]
        exact (BadInv.finish (inv.past (inv.cur.cur.more (by omega)) (World.grownBy.refl _ _)) _ _)
    · have t1 : ((r : Int) == 1) = false := by rw [beq_eq_false_iff_ne]; omega
      by_cases h2 : r = 2
      · have t2 : ((r : Int) == 2) = true := by rw [beq_iff_eq]; omega
        clear h0 h1 h2
        by_cases hl : Ws.length = 0
        · have t3 : decide ((0 : Int) < (Ws.length : Int)) = false := decide_eq_false (by omega)
          have t3n : decide (0 < Ws.length) = false := decide_eq_false (by omega)
          have HI := Lib.hid inv
          clear inv hl
          go_wp2
          refine bodyPost_ret (v := .agg #[.int .i64 N, .slice A2 Ws.length c2]) (by simp [results, Tryd.results28, go_sem, q0, q1]) rfl ?_
          have inv := HI.out
          exact (BadInv.finish (inv.past (inv.cur.cur.more (by omega)) (World.grownBy.refl _ _)) _ _)
        · obtain ⟨gw, cap, hv, _, _⟩ := inv.own.form (by omega)
          injection hv with hA2 _ hc2
          subst hA2 hc2
          have t3 : decide ((0 : Int) < (Ws.length : Int)) = true := decide_eq_true (by omega)
          have t3n : decide (0 < Ws.length) = true := decide_eq_true (by omega)
          have hWi : 0 < (Ws.length : Int) := by omega
          replace inv := inv.drew
          go_wp2_with fail
          go_region_held3 (fun w' => w'.cell? ⟨bv, 1, none⟩ = some (.slice (some ⟨gw, 0, none⟩) Ws.length c2)) (first | go_keep | assumption | exact k1s _) (first | (go_at_call 29; (with_reducible refine Calls.mono (pick_any g A c D (K + 6000 + 1) (Ws.length : Int) _ ?_ (by omega) (by omega)) ?_); exact inv.cur.cur; rintro e w5 ⟨q, rfl, hq, hq0, hc5, hg5⟩; replace inv := inv.past hc5 hg5; clear hc5 hg5; have k1 := inv.box.cell 1; simp only [List.getElem?_toArray, List.getElem?_cons_zero, List.getElem?_cons_succ] at k1; have hql := pick_lt hq hq0 hWi; have k1s := inv.boxOff q; obtain ⟨y, hy⟩ : ∃ y, w5.cell? ⟨gw, q, none⟩ = some y := ⟨_, (inv.own.cellAt q (by omega)).trans (List.getElem?_eq_getElem (by simp; omega))⟩; have hyf := inv.own.frozenAt q))
          replace inv := inv.word q 18446744073709551615 (by decide)
          clear f0 f1 q0 q1 qz0 qz1 hrl hbl hne k1 k1s hy hyf
          generalize w5.setCell ⟨gw, q, none⟩ (Value.int IntKind.u64 18446744073709551615) = w6 at *
          have HL2 : Hid ((Ws.set q 18446744073709551615).length = Ws.length) := Lib.hid (by simp)
          generalize Ws.set q 18446744073709551615 = Ws2 at *
          have f0 := inv.box.cell 0
          have f1 := inv.box.cell 1
          have q0 := inv.res.cell 0
          have q1 := inv.res.cell 1
          have qz0 := inv.res.frozen 0
          have qz1 := inv.res.frozen 1
          have hrl := inv.res.lt
          have hbl := inv.box.lt
          have hne := inv.lt
          simp only [List.getElem?_toArray, List.getElem?_cons_zero, List.getElem?_cons_succ] at f0 f1 q0 q1
          have HI := Lib.hid inv
          clear inv
          go_wp2
          refine bodyPost_ret (v := .agg #[.int .i64 N, .slice (some ⟨gw, 0, none⟩) Ws2.length c2]) (by simp [results, Tryd.results28, go_sem, q0, q1, HL2.out]) rfl ?_
          have inv := HI.out
          exact (BadInv.finish (inv.past (inv.cur.cur.more (by omega)) (World.grownBy.refl _ _)) _ _)
      · have t2 : ((r : Int) == 2) = false := by rw [beq_eq_false_iff_ne]; omega
        clear h0 h1 h2
        have HI := Lib.hid inv
        clear inv
        go_wp2
        refine bodyPost_ret (v := .agg #[.int .i64 N, .slice A2 Ws.length c2]) (by simp [results, Tryd.results28, go_sem, q0, q1]) rfl ?_
        have inv := HI.out
        exact (BadInv.finish (inv.past (inv.cur.cur.more (by omega)) (World.grownBy.refl _ _)) _ _)

end Go.Proofs.YtanllfidbhjboaaDoor
