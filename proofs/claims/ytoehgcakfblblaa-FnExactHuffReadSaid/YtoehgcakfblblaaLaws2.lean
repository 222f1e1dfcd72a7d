import Derived.WalkKit
import Derived.WalkSpells
import Derived.WalkLawsBesides
import Derived.Deep.AppendLies
import Derived.Deep.OwnRows
import Derived.BigQuiet
import Derived.Deep.QuietTactic
import Derived.Lib.Hide
import Derived.Handy
import Derived.StillTailTactics
import Derived.Test.YtoehgcakfblblaaProg
/- Words of my own for memory, over which all walks of this seat are stated: a list whose values lie at an address, one a cell, and how it outlives what a call does. Nothing of the program stands here. -/
namespace Go.Proofs.Ytoehgcakfblblaa
open Go.RowKit

/-- A word as a value. -/
abbrev U (x : Nat) : Value := .int .u64 (x : Int)
/-- A byte as a value. -/
abbrev B8 (x : Nat) : Value := .int .u8 (x : Int)
/-- A number as a value. -/
abbrev I (x : Int) : Value := .int .i64 x

section
variable {α : Type} {f : α → Value}

/-- The values of L lie, one a cell, at the address A (a letter where L is empty). -/
def Lies (w : World) (f : α → Value) (A : Option Addr) (L : List α) : Prop :=
  ∀ i x, L[i]? = some x → ∃ b o, A = some ⟨b, o, none⟩ ∧ b < w.heap.size ∧ w.cell? ⟨b, o + i, none⟩ = some (f x)

theorem Lies.at_ {w : World} {A : Option Addr} {L : List α} (h : Lies w f A L) {i : Nat} (hi : i < L.length) :
    ∃ b o x, A = some ⟨b, o, none⟩ ∧ b < w.heap.size ∧ L[i]? = some x ∧ w.cell? ⟨b, o + i, none⟩ = some (f x) := by
  obtain ⟨b, o, h1, h2, h3⟩ := h i _ (List.getElem?_eq_getElem hi)
  exact ⟨b, o, _, h1, h2, List.getElem?_eq_getElem hi, h3⟩

theorem Lies.nil_ {w : World} {A : Option Addr} : Lies w f A [] := fun i x h => by simp at h

theorem Lies.below {w w' : World} {A : Option Addr} {L : List α} (h : Lies w f A L) (hb : Below w.heap.size w w') : Lies w' f A L := fun i x hx => by
  obtain ⟨b, o, h1, h2, h3⟩ := h i x hx
  exact ⟨b, o, h1, Nat.lt_of_lt_of_le h2 hb.size, (hb.cell (p := ⟨b, o + i, none⟩) h2).trans h3⟩

theorem Lies.of_own {w : World} {base : Nat} {e : TypeId} {A : Option Addr} {n c : Nat} {L : List α}
    (h : w.ownsRow base e 1 (.slice A n c) n (L.map f)) : Lies w f A L := fun i x hx => by
  have hl : i < L.length := (List.getElem?_eq_some_iff.1 hx).1
  have hn : n = L.length := by have := h.1; simp at this; omega
  obtain ⟨g, cap, hv, _, hlt⟩ := h.form (by omega)
  injection hv with e1 e2 e3
  subst e1
  refine ⟨g, 0, rfl, hlt, ?_⟩
  rw [Nat.zero_add, h.cellAt i (by omega)]
  simp [hx]

theorem Lies.drew {w : World} {A : Option Addr} {L : List α} (h : Lies w f A L) : Lies w.drew f A L := h
theorem Lies.drewN {w : World} {A : Option Addr} {L : List α} (h : Lies w f A L) (n : Nat) : Lies (w.drewN n) f A L := h

/-- A piece of it: from a on, and up to b. -/
theorem Lies.piece {w : World} {b o : Nat} {L : List α} (h : Lies w f (some ⟨b, o, none⟩) L) (i : Nat) (m : Nat) : Lies w f (some ⟨b, o + i, none⟩) ((L.drop i).take m) := fun j x hx => by
  have hj : L[i + j]? = some x := by
    rw [List.getElem?_take] at hx
    split at hx
    · rwa [List.getElem?_drop] at hx
    · cases hx
  obtain ⟨b', o', h1, h2, h3⟩ := h (i + j) x hj
  injection h1 with h1
  injection h1 with e1 e2
  subst e1 e2
  exact ⟨b, o + i, rfl, h2, by rw [Nat.add_assoc]; exact h3⟩

theorem Lies.front {w : World} {A : Option Addr} {L : List α} (h : Lies w f A L) (m : Nat) : Lies w f A (L.take m) := fun j x hx => by
  rw [List.getElem?_take] at hx
  split at hx
  · exact h j x hx
  · cases hx

/-- What a copy holds after m of its rounds. -/
def copied (f : α → Value) (z : Value) (L : List α) (m : Nat) : List Value := (L.take m).map f ++ List.replicate (L.length - m) z
theorem copied_zero (z : Value) (L : List α) : copied f z L 0 = List.replicate L.length z := by simp [copied]
theorem copied_all (z : Value) (L : List α) : copied f z L L.length = L.map f := by simp [copied]
theorem copied_succ (z : Value) (L : List α) (m : Nat) (x : α) (h : L[m]? = some x) : copied f z L (m + 1) = (copied f z L m).set m (f x) := by
  obtain ⟨hm, rfl⟩ := List.getElem?_eq_some_iff.1 h
  have e1 : L.length - m = (L.length - (m + 1)) + 1 := by omega
  have e2 : ((L.take m).map f).length = m := by simp; omega
  unfold copied
  rw [List.take_succ_eq_append_getElem hm, e1, List.replicate_succ, List.set_append_right _ _ (by omega), e2, Nat.sub_self]
  simp only [List.map_append, List.map_cons, List.map_nil, List.append_assoc, List.set_cons_zero, List.cons_append, List.nil_append]
theorem copied_get (z : Value) (L : List α) (m : Nat) (h : m < L.length) : (copied f z L m)[m]? = some z := by
  have e2 : ((L.take m).map f).length = m := by simp; omega
  unfold copied
  rw [List.getElem?_append_right (by omega), e2, Nat.sub_self, List.getElem?_replicate, if_pos (by omega)]
theorem copied_len (z : Value) (L : List α) (m : Nat) (h : m ≤ L.length) : (copied f z L m).length = L.length := by
  simp [copied]; omega

theorem take_same_succ {L M : List α} {k : Nat} {x : α} (h : L.take k = M.take k) (hx : L[k]? = some x) (hy : M[k]? = some x) : L.take (k + 1) = M.take (k + 1) := by
  rw [List.take_add_one, List.take_add_one, h, hx, hy]
theorem ne_of_at {L M : List α} {k : Nat} {x y : α} (hx : L[k]? = some x) (hy : M[k]? = some y) (h : x ≠ y) : L ≠ M := fun e => h (by subst e; rw [hx] at hy; exact Option.some.inj hy)
end

theorem below_dN {B : Nat} {a w : World} (h : Below B a w) (n : Nat) : Below B a (w.drewN n) := ⟨h.os, h.tape, h.output, h.size, h.block⟩

/-- The world but for draws. -/
def Drawn (w w' : World) : Prop := ∃ n, w' = w.drewN n
theorem Drawn.refl (w : World) : Drawn w w := ⟨0, rfl⟩
theorem Drawn.more {w w' : World} (h : Drawn w w') (n : Nat) : Drawn w (w'.drewN n) := by obtain ⟨m, rfl⟩ := h; exact ⟨m + n, by simp⟩
theorem Drawn.two (w : World) (a b : Nat) : Drawn w ((w.drewN a).drewN b) := ⟨a + b, by simp⟩
theorem Drawn.below {w w' : World} (h : Drawn w w') (B : Nat) : Below B w w' := by obtain ⟨n, rfl⟩ := h; exact below_dN (Below.refl _ _) n

theorem bcell {W w1 : World} (hb : Below W.heap.size W w1) : (∀ b o, b < W.heap.size → w1.cell? ⟨b, o, none⟩ = W.cell? ⟨b, o, none⟩) ∧ (∀ b o, b < W.heap.size → w1.frozen? ⟨b, o, none⟩ = W.frozen? ⟨b, o, none⟩) :=
  ⟨fun b o h => hb.cell (p := ⟨b, o, none⟩) h, fun b o h => hb.frozen (p := ⟨b, o, none⟩) h⟩

theorem below_then {w a b : World} (h : Below w.heap.size w a) (k : Below a.heap.size a b) : Below w.heap.size w b := h.trans (k.mono h.size)

theorem own_below {w w' : World} {B base : Nat} {e : TypeId} {size : Nat} {v : Value} {n : Nat} {xs : List Value}
    (h : w.ownsRow base e size v n xs) (hb : Below B w w') (hB : w.heap.size ≤ B) : w'.ownsRow base e size v n xs := by
  obtain ⟨h1, h2⟩ := h
  refine ⟨h1, ?_⟩
  rcases h2 with h2 | ⟨g, cap, cur, hv, hg, hh, r⟩
  · exact .inl h2
  · have hlt : g < w.heap.size := by
      rcases Nat.lt_or_ge g w.heap.size with hlt | hge
      · exact hlt
      · rw [Array.getElem?_eq_none hge] at hh; cases hh
    exact .inr ⟨g, cap, cur, hv, hg, by rw [hb.block g (by omega)]; exact hh, r⟩

theorem own_slice {w : World} {base : Nat} {e : TypeId} {size : Nat} {v : Value} {n : Nat} {xs : List Value} (h : w.ownsRow base e size v n xs) : ∃ A c, v = .slice A n c := by
  rcases h.2 with ⟨rfl, rfl⟩ | ⟨g, cap, cur, rfl, _⟩
  · exact ⟨_, _, rfl⟩
  · exact ⟨_, _, rfl⟩

theorem own_mono {w : World} {base base' : Nat} {e : TypeId} {size : Nat} {v : Value} {n : Nat} {xs : List Value}
    (h : w.ownsRow base e size v n xs) (hb : base' ≤ base) : w.ownsRow base' e size v n xs := by
  obtain ⟨h1, h2⟩ := h
  refine ⟨h1, ?_⟩
  rcases h2 with h2 | ⟨g, cap, cur, hv, hg, r⟩
  · exact .inl h2
  · exact .inr ⟨g, cap, cur, hv, by omega, r⟩

/-- Block g is just these cells, none of them frozen. -/
def Box (w : World) (g : Nat) (t : TypeId) (cs : Array Value) : Prop := w.heap[g]? = some (.cells cs t (0, 0))
section
variable {w w' : World} {g : Nat} {t : TypeId} {cs : Array Value}
theorem Box.lt (h : Box w g t cs) : g < w.heap.size := by
  rcases Nat.lt_or_ge g w.heap.size with hlt | hge
  · exact hlt
  · unfold Box at h; rw [Array.getElem?_eq_none hge] at h; cases h
theorem Box.cell (h : Box w g t cs) (i : Nat) : w.cell? ⟨g, i, none⟩ = cs[i]? := cell_of_row w g i cs t (0, 0) h
theorem Box.frozen (h : Box w g t cs) (i : Nat) : w.frozen? ⟨g, i, none⟩ = false := frozen_of_row w g i cs t h
theorem Box.made (w : World) (t : TypeId) (cs : Array Value) : Box (w.alloc (.cells cs t)) w.heap.size t cs := heap_alloc_new w _
theorem Box.draw (h : Box w g t cs) (n : Nat) : Box (w.drewN n) g t cs := h
theorem Box.alloc (h : Box w g t cs) (o : Obj) : Box (w.alloc o) g t cs := (Below.heap_alloc w o g h.lt).trans h
theorem Box.put (h : Box w g t cs) (i : Nat) (u : Value) : Box (w.setCell ⟨g, i, none⟩ u) g t (cs.setIfInBounds i u) := heap_setCell_same w g i cs t u h
theorem Box.off (h : Box w g t cs) {p : Addr} (hp : g ≠ p.block) (u : Value) : Box (w.setCell p u) g t cs := (Below.heap_setCell w p u g hp).trans h
theorem Box.below {B : Nat} (h : Box w g t cs) (hb : Below B w w') (hg : g < B) : Box w' g t cs := (hb.block g hg).trans h
theorem Box.grown {row : Option Nat} (h : Box w g t cs) (hb : w.grownBy w' row) (hg : row ≠ some g) : Box w' g t cs := (hb.block g h.lt (fun e => hg e.symm)).trans h
theorem own_apart {base : Nat} {e : TypeId} {size n : Nat} {v : Value} {xs : List Value} (h : w.ownsRow base e size v n xs) {g : Nat} (hg : g < base) : v.ownBlock ≠ some g := fun he => by have := (h.lt g he).1; omega
end

theorem run_shr_u64 {P : Program} (t : TypeId) (x r : Nat) (hr : r ≤ 64) (W : World) : (binOp .shr t (.int .u64 (x : Int)) (.int .i64 (r : Int))).run P W = .ok (.int .u64 ((x / 2 ^ r : Nat) : Int)) W := by
  have h : min r 64 = r := by omega
  simp [binOp, Op.shift, IntKind.bits, h]
theorem run_shl_u64 {P : Program} (t : TypeId) (x r : Nat) (hr : r ≤ 64) (W : World) : (binOp .shl t (.int .u64 (x : Int)) (.int .i64 (r : Int))).run P W = .ok (.int .u64 ((x * 2 ^ r % 2 ^ 64 : Nat) : Int)) W := by
  have h : min r 64 = r := by omega
  simp [binOp, Op.shift, IntKind.bits, h, IntKind.wrap, IntKind.signed]

theorem ret_bool {a b : Bool} (h : a = b) : Ending.returned (.bool a) = .returned (.bool b) := by rw [h]
theorem ret_int {k : IntKind} {a b : Int} (h : a = b) : Ending.returned (.int k a) = .returned (.int k b) := by rw [h]

end Go.Proofs.Ytoehgcakfblblaa

/- Contracts of the laws' own copies and comparisons of lists of numbers. -/
namespace Go.Proofs.Ytoehgcakfblblaa
open Go.RowKit
set_option maxRecDepth 100000

theorem Try.infoU64 : (Try.prog.info? 123).map (fun i => (i.zero, i.size, i.bytes)) = some (some (.int .u64 0), 1, 8) := by kernel_rfl

theorem Try.infoInt : (Try.prog.info? 3).map (fun i => (i.zero, i.size, i.bytes)) = some (some (.int .i64 0), 1, 8) := by kernel_rfl

set_option maxHeartbeats 400000 in
theorem toU64 (A : Option Addr) (c : Nat) (L : List Nat) (w : World) (hL : Lies w U A L) (hn : L.length ≤ 17592186044416) :
    Calls Try.prog 98 #[.slice A L.length c] w fun e w' => e = .returned (.slice (some ⟨w.heap.size, 0, none⟩) L.length L.length) ∧
      w'.ownsRow w.heap.size 123 1 (.slice (some ⟨w.heap.size, 0, none⟩) L.length L.length) L.length (L.map U) ∧ Below w.heap.size w w' := by
  have hmk := fun W => run_make_row' (P := Try.prog) 42 123 (.int .u64 0) 8 Try.underlying42 Try.infoU64 rfl .i64 .i64 L.length (by omega) (by omega) W
  go_enter Try.func98, Try.ntmps98
  go_wp2
  go_loopw [4] (fun i wr => ∃ k : Nat, k ≤ L.length ∧ i = .int .i64 k ∧ wr.ownsRow w.heap.size 123 1 (.slice (some ⟨w.heap.size, 0, none⟩) L.length L.length) L.length (copied U (U 0) L k) ∧ Below w.heap.size w wr) (fun i _ => L.length - (intOf i).toNat)
  case atStart =>
    refine ⟨0, Nat.zero_le _, rfl, ?_, (Below.refl _ _).alloc (Nat.le_refl _) _⟩
    rw [copied_zero, ← toList_madeCells_one]
    exact World.ownsRow_lit w _ _ (Nat.le_refl _) (by unfold maxLen; omega) (by simp [size_madeCells])
  case round =>
    obtain ⟨k, hk, rfl, hown, hb⟩ := hrel
    clear hmk
    by_cases hlt : k < L.length
    · obtain ⟨b, o, x, rfl, hbl, hx, hc⟩ := hL.at_ hlt
      have hc' : wr.cell? ⟨b, o + k, none⟩ = some (.int .u64 x) := (hb.cell (p := ⟨b, o + k, none⟩) hbl).trans hc
      have hd : wr.cell? ⟨w.heap.size, k, none⟩ = some (.int .u64 0) := (hown.cellAt k (by omega)).trans (copied_get _ _ _ hlt)
      have hf := hown.frozenAt k
      have HS := Lib.hid (hown.stored k (.int .u64 x)).1
      have HB := Lib.hid (hb.setCell (p := ⟨w.heap.size, k, none⟩) (Nat.le_refl _) (.int .u64 x))
      have HX := Lib.hid (copied_succ (f := U) (U 0) L k x hx)
      clear hx hc hown hb
      go_wp2
      go_roundw
      case rel => exact ⟨k + 1, by omega, by go_num, by rw [HX.out]; exact HS.out, HB.out⟩
      case measure => simp [intOf]; omega
    · go_wp2
      go_ret
      have e : k = L.length := by omega
      subst e
      rw [copied_all] at hown
      exact ⟨rfl, hown, hb⟩

end Go.Proofs.Ytoehgcakfblblaa
