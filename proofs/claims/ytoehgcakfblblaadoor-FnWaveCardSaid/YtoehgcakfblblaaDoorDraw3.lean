import Derived.WalkKit
import Derived.WalkSpells
import Derived.WalkLawsBesides
import Derived.Deep.AppendLies
import Derived.Deep.OwnRows
import Derived.BigQuiet
import Derived.Deep.QuietTactic
import Derived.Lib.Hide
import Derived.Handy
import Derived.StillTailTactics
import Derived.Deep.RegionWith
import Derived.Deep.RegionHeld3
import Derived.Test.YtoehgcakfblblaaDoorProg
/- Words of my own for memory, over which all walks of this seat are stated: a list whose values lie at an address, one a cell, and how it outlives what a call does. Nothing of the program stands here. -/
namespace Go.Proofs.YtoehgcakfblblaaDoor
open Go.RowKit

/-- A word as a value. -/
abbrev U (x : Nat) : Value := .int .u64 (x : Int)
/-- A byte as a value. -/
abbrev B8 (x : Nat) : Value := .int .u8 (x : Int)
/-- A number as a value. -/
abbrev I (x : Int) : Value := .int .i64 x

section
variable {α : Type} {f : α → Value}

/-- The values of L lie, one a cell, at the address A (a letter where L is empty). -/
def Lies (w : World) (f : α → Value) (A : Option Addr) (L : List α) : Prop :=
  ∀ i x, L[i]? = some x → ∃ b o, A = some ⟨b, o, none⟩ ∧ b < w.heap.size ∧ w.cell? ⟨b, o + i, none⟩ = some (f x)

theorem Lies.at_ {w : World} {A : Option Addr} {L : List α} (h : Lies w f A L) {i : Nat} (hi : i < L.length) :
    ∃ b o x, A = some ⟨b, o, none⟩ ∧ b < w.heap.size ∧ L[i]? = some x ∧ w.cell? ⟨b, o + i, none⟩ = some (f x) := by
  obtain ⟨b, o, h1, h2, h3⟩ := h i _ (List.getElem?_eq_getElem hi)
  exact ⟨b, o, _, h1, h2, List.getElem?_eq_getElem hi, h3⟩

theorem Lies.nil_ {w : World} {A : Option Addr} : Lies w f A [] := fun i x h => by simp at h

theorem Lies.below {w w' : World} {A : Option Addr} {L : List α} (h : Lies w f A L) (hb : Below w.heap.size w w') : Lies w' f A L := fun i x hx => by
  obtain ⟨b, o, h1, h2, h3⟩ := h i x hx
  exact ⟨b, o, h1, Nat.lt_of_lt_of_le h2 hb.size, (hb.cell (p := ⟨b, o + i, none⟩) h2).trans h3⟩

theorem Lies.of_own {w : World} {base : Nat} {e : TypeId} {A : Option Addr} {n c : Nat} {L : List α}
    (h : w.ownsRow base e 1 (.slice A n c) n (L.map f)) : Lies w f A L := fun i x hx => by
  have hl : i < L.length := (List.getElem?_eq_some_iff.1 hx).1
  have hn : n = L.length := by have := h.1; simp at this; omega
  obtain ⟨g, cap, hv, _, hlt⟩ := h.form (by omega)
  injection hv with e1 e2 e3
  subst e1
  refine ⟨g, 0, rfl, hlt, ?_⟩
  rw [Nat.zero_add, h.cellAt i (by omega)]
  simp [hx]

theorem Lies.drew {w : World} {A : Option Addr} {L : List α} (h : Lies w f A L) : Lies w.drew f A L := h
theorem Lies.drewN {w : World} {A : Option Addr} {L : List α} (h : Lies w f A L) (n : Nat) : Lies (w.drewN n) f A L := h

/-- A piece of it: from a on, and up to b. -/
theorem Lies.piece {w : World} {b o : Nat} {L : List α} (h : Lies w f (some ⟨b, o, none⟩) L) (i : Nat) (m : Nat) : Lies w f (some ⟨b, o + i, none⟩) ((L.drop i).take m) := fun j x hx => by
  have hj : L[i + j]? = some x := by
    rw [List.getElem?_take] at hx
    split at hx
    · rwa [List.getElem?_drop] at hx
    · cases hx
  obtain ⟨b', o', h1, h2, h3⟩ := h (i + j) x hj
  injection h1 with h1
  injection h1 with e1 e2
  subst e1 e2
  exact ⟨b, o + i, rfl, h2, by rw [Nat.add_assoc]; exact h3⟩

theorem Lies.front {w : World} {A : Option Addr} {L : List α} (h : Lies w f A L) (m : Nat) : Lies w f A (L.take m) := fun j x hx => by
  rw [List.getElem?_take] at hx
  split at hx
  · exact h j x hx
  · cases hx

/-- What a copy holds after m of its rounds. -/
def copied (f : α → Value) (z : Value) (L : List α) (m : Nat) : List Value := (L.take m).map f ++ List.replicate (L.length - m) z
theorem copied_zero (z : Value) (L : List α) : copied f z L 0 = List.replicate L.length z := by simp [copied]
theorem copied_all (z : Value) (L : List α) : copied f z L L.length = L.map f := by simp [copied]
theorem copied_succ (z : Value) (L : List α) (m : Nat) (x : α) (h : L[m]? = some x) : copied f z L (m + 1) = (copied f z L m).set m (f x) := by
  obtain ⟨hm, rfl⟩ := List.getElem?_eq_some_iff.1 h
  have e1 : L.length - m = (L.length - (m + 1)) + 1 := by omega
  have e2 : ((L.take m).map f).length = m := by simp; omega
  unfold copied
  rw [List.take_succ_eq_append_getElem hm, e1, List.replicate_succ, List.set_append_right _ _ (by omega), e2, Nat.sub_self]
  simp only [List.map_append, List.map_cons, List.map_nil, List.append_assoc, List.set_cons_zero, List.cons_append, List.nil_append]
theorem copied_get (z : Value) (L : List α) (m : Nat) (h : m < L.length) : (copied f z L m)[m]? = some z := by
  have e2 : ((L.take m).map f).length = m := by simp; omega
  unfold copied
  rw [List.getElem?_append_right (by omega), e2, Nat.sub_self, List.getElem?_replicate, if_pos (by omega)]
theorem copied_len (z : Value) (L : List α) (m : Nat) (h : m ≤ L.length) : (copied f z L m).length = L.length := by
  simp [copied]; omega

theorem take_same_succ {L M : List α} {k : Nat} {x : α} (h : L.take k = M.take k) (hx : L[k]? = some x) (hy : M[k]? = some x) : L.take (k + 1) = M.take (k + 1) := by
  rw [List.take_add_one, List.take_add_one, h, hx, hy]
theorem ne_of_at {L M : List α} {k : Nat} {x y : α} (hx : L[k]? = some x) (hy : M[k]? = some y) (h : x ≠ y) : L ≠ M := fun e => h (by subst e; rw [hx] at hy; exact Option.some.inj hy)
end

theorem below_dN {B : Nat} {a w : World} (h : Below B a w) (n : Nat) : Below B a (w.drewN n) := ⟨h.os, h.tape, h.output, h.size, h.block⟩

/-- The world but for draws. -/
def Drawn (w w' : World) : Prop := ∃ n, w' = w.drewN n
theorem Drawn.refl (w : World) : Drawn w w := ⟨0, rfl⟩
theorem Drawn.more {w w' : World} (h : Drawn w w') (n : Nat) : Drawn w (w'.drewN n) := by obtain ⟨m, rfl⟩ := h; exact ⟨m + n, by simp⟩
theorem Drawn.two (w : World) (a b : Nat) : Drawn w ((w.drewN a).drewN b) := ⟨a + b, by simp⟩
theorem Drawn.below {w w' : World} (h : Drawn w w') (B : Nat) : Below B w w' := by obtain ⟨n, rfl⟩ := h; exact below_dN (Below.refl _ _) n

theorem bcell {W w1 : World} (hb : Below W.heap.size W w1) : (∀ b o, b < W.heap.size → w1.cell? ⟨b, o, none⟩ = W.cell? ⟨b, o, none⟩) ∧ (∀ b o, b < W.heap.size → w1.frozen? ⟨b, o, none⟩ = W.frozen? ⟨b, o, none⟩) :=
  ⟨fun b o h => hb.cell (p := ⟨b, o, none⟩) h, fun b o h => hb.frozen (p := ⟨b, o, none⟩) h⟩

theorem below_then {w a b : World} (h : Below w.heap.size w a) (k : Below a.heap.size a b) : Below w.heap.size w b := h.trans (k.mono h.size)

theorem own_below {w w' : World} {B base : Nat} {e : TypeId} {size : Nat} {v : Value} {n : Nat} {xs : List Value}
    (h : w.ownsRow base e size v n xs) (hb : Below B w w') (hB : w.heap.size ≤ B) : w'.ownsRow base e size v n xs := by
  obtain ⟨h1, h2⟩ := h
  refine ⟨h1, ?_⟩
  rcases h2 with h2 | ⟨g, cap, cur, hv, hg, hh, r⟩
  · exact .inl h2
  · have hlt : g < w.heap.size := by
      rcases Nat.lt_or_ge g w.heap.size with hlt | hge
      · exact hlt
      · rw [Array.getElem?_eq_none hge] at hh; cases hh
    exact .inr ⟨g, cap, cur, hv, hg, by rw [hb.block g (by omega)]; exact hh, r⟩

theorem own_slice {w : World} {base : Nat} {e : TypeId} {size : Nat} {v : Value} {n : Nat} {xs : List Value} (h : w.ownsRow base e size v n xs) : ∃ A c, v = .slice A n c := by
  rcases h.2 with ⟨rfl, rfl⟩ | ⟨g, cap, cur, rfl, _⟩
  · exact ⟨_, _, rfl⟩
  · exact ⟨_, _, rfl⟩

theorem own_mono {w : World} {base base' : Nat} {e : TypeId} {size : Nat} {v : Value} {n : Nat} {xs : List Value}
    (h : w.ownsRow base e size v n xs) (hb : base' ≤ base) : w.ownsRow base' e size v n xs := by
  obtain ⟨h1, h2⟩ := h
  refine ⟨h1, ?_⟩
  rcases h2 with h2 | ⟨g, cap, cur, hv, hg, r⟩
  · exact .inl h2
  · exact .inr ⟨g, cap, cur, hv, by omega, r⟩

/-- Block g is just these cells, none of them frozen. -/
def Box (w : World) (g : Nat) (t : TypeId) (cs : Array Value) : Prop := w.heap[g]? = some (.cells cs t (0, 0))
section
variable {w w' : World} {g : Nat} {t : TypeId} {cs : Array Value}
theorem Box.lt (h : Box w g t cs) : g < w.heap.size := by
  rcases Nat.lt_or_ge g w.heap.size with hlt | hge
  · exact hlt
  · unfold Box at h; rw [Array.getElem?_eq_none hge] at h; cases h
theorem Box.cell (h : Box w g t cs) (i : Nat) : w.cell? ⟨g, i, none⟩ = cs[i]? := cell_of_row w g i cs t (0, 0) h
theorem Box.frozen (h : Box w g t cs) (i : Nat) : w.frozen? ⟨g, i, none⟩ = false := frozen_of_row w g i cs t h
theorem Box.made (w : World) (t : TypeId) (cs : Array Value) : Box (w.alloc (.cells cs t)) w.heap.size t cs := heap_alloc_new w _
theorem Box.draw (h : Box w g t cs) (n : Nat) : Box (w.drewN n) g t cs := h
theorem Box.alloc (h : Box w g t cs) (o : Obj) : Box (w.alloc o) g t cs := (Below.heap_alloc w o g h.lt).trans h
theorem Box.put (h : Box w g t cs) (i : Nat) (u : Value) : Box (w.setCell ⟨g, i, none⟩ u) g t (cs.setIfInBounds i u) := heap_setCell_same w g i cs t u h
theorem Box.off (h : Box w g t cs) {p : Addr} (hp : g ≠ p.block) (u : Value) : Box (w.setCell p u) g t cs := (Below.heap_setCell w p u g hp).trans h
theorem Box.below {B : Nat} (h : Box w g t cs) (hb : Below B w w') (hg : g < B) : Box w' g t cs := (hb.block g hg).trans h
theorem Box.grown {row : Option Nat} (h : Box w g t cs) (hb : w.grownBy w' row) (hg : row ≠ some g) : Box w' g t cs := (hb.block g h.lt (fun e => hg e.symm)).trans h
theorem own_apart {base : Nat} {e : TypeId} {size n : Nat} {v : Value} {xs : List Value} (h : w.ownsRow base e size v n xs) {g : Nat} (hg : g < base) : v.ownBlock ≠ some g := fun he => by have := (h.lt g he).1; omega
end

theorem run_shr_u64 {P : Program} (t : TypeId) (x r : Nat) (hr : r ≤ 64) (W : World) : (binOp .shr t (.int .u64 (x : Int)) (.int .i64 (r : Int))).run P W = .ok (.int .u64 ((x / 2 ^ r : Nat) : Int)) W := by
  have h : min r 64 = r := by omega
  simp [binOp, Op.shift, IntKind.bits, h]
theorem run_shl_u64 {P : Program} (t : TypeId) (x r : Nat) (hr : r ≤ 64) (W : World) : (binOp .shl t (.int .u64 (x : Int)) (.int .i64 (r : Int))).run P W = .ok (.int .u64 ((x * 2 ^ r % 2 ^ 64 : Nat) : Int)) W := by
  have h : min r 64 = r := by omega
  simp [binOp, Op.shift, IntKind.bits, h, IntKind.wrap, IntKind.signed]

theorem ret_bool {a b : Bool} (h : a = b) : Ending.returned (.bool a) = .returned (.bool b) := by rw [h]
theorem ret_int {k : IntKind} {a b : Int} (h : a = b) : Ending.returned (.int k a) = .returned (.int k b) := by rw [h]

end Go.Proofs.YtoehgcakfblblaaDoor

/- More words of my own: operations on words. Nothing of the program stands here. -/
namespace Go.Proofs.YtoehgcakfblblaaDoor
open Go.RowKit

theorem run_and_u64 {P : Program} (t : TypeId) (a b : Nat) (ha : a < 2 ^ 64) (hb : b < 2 ^ 64) (W : World) : (binOp .and t (.int .u64 (a : Int)) (.int .u64 (b : Int))).run P W = .ok (.int .u64 ((a &&& b : Nat) : Int)) W := by
  have h : a &&& b < 2 ^ 64 := Nat.and_lt_two_pow _ hb
  simp [binOp, Op.intBits]
  show IntKind.u64.wrap ((a % 2 ^ 64 &&& b % 2 ^ 64 : Nat) : Int) = _
  rw [Nat.mod_eq_of_lt ha, Nat.mod_eq_of_lt hb]
  exact IntWalk.u64_in _ (by omega)
theorem run_and1_u64 {P : Program} (t : TypeId) (a : Nat) (ha : a < 2 ^ 64) (W : World) : (binOp .and t (.int .u64 (a : Int)) (.int .u64 1)).run P W = .ok (.int .u64 ((a % 2 : Nat) : Int)) W := by
  have h := run_and_u64 (P := P) t a 1 ha (by decide) W
  rw [nat_mask1] at h
  exact h
theorem run_or_u64 {P : Program} (t : TypeId) (a b : Nat) (ha : a < 2 ^ 64) (hb : b < 2 ^ 64) (W : World) : (binOp .or t (.int .u64 (a : Int)) (.int .u64 (b : Int))).run P W = .ok (.int .u64 ((a ||| b : Nat) : Int)) W := by
  have h : a ||| b < 2 ^ 64 := Nat.or_lt_two_pow ha hb
  simp [binOp, Op.intBits]
  show IntKind.u64.wrap ((a % 2 ^ 64 ||| b % 2 ^ 64 : Nat) : Int) = _
  rw [Nat.mod_eq_of_lt ha, Nat.mod_eq_of_lt hb]
  exact IntWalk.u64_in _ (by omega)

end Go.Proofs.YtoehgcakfblblaaDoor

/- The cursor by which the specification draws its inputs, and its pick. -/
namespace Go.Proofs.YtoehgcakfblblaaDoor
open Go.RowKit
set_option maxRecDepth 100000

/-- The cursor lies in block g: a code, how many numbers were drawn (at most K), a seed. -/
structure Cur (w : World) (g : Nat) (A : Option Addr) (c : Nat) (D : List Nat) (K : Nat) : Prop where
  lies : Lies w B8 A D
  apart : ∀ b o, 0 < D.length → A = some ⟨b, o, none⟩ → b ≠ g
  bytes : ∀ x ∈ D, x < 2 ^ 8
  len : D.length ≤ 1048576
  box : ∃ a s : Nat, a ≤ K ∧ s < 65521 ∧ Box w g 63 #[.slice A D.length c, .int .i64 a, .int .i64 s]

theorem Lies.turn {α : Type} {f : α → Value} {w w' : World} {A : Option Addr} {L : List α} (h : Lies w f A L) (hs : w.heap.size ≤ w'.heap.size) (hk : ∀ b o, 0 < L.length → A = some ⟨b, o, none⟩ → b < w.heap.size → w'.heap[b]? = w.heap[b]?) : Lies w' f A L := fun i x hx => by
  obtain ⟨b, o, h1, h2, h3⟩ := h i x hx
  have hl : 0 < L.length := Nat.lt_of_le_of_lt (Nat.zero_le _) (List.getElem?_eq_some_iff.1 hx).1
  exact ⟨b, o, h1, Nat.lt_of_lt_of_le h2 hs, (World.cell?_of_block (a := ⟨b, o + i, none⟩) (hk b o hl h1 h2)).trans h3⟩
theorem Lies.grown {α : Type} {f : α → Value} {w w' : World} {A : Option Addr} {L : List α} {g : Nat} (h : Lies w f A L) (hg : w.grownBy w' (some g)) (ha : ∀ b o, 0 < L.length → A = some ⟨b, o, none⟩ → b ≠ g) : Lies w' f A L :=
  h.turn hg.size fun b o hl hA hb => hg.block b hb fun e => ha b o hl hA (Option.some.inj e)

section
variable {w w' : World} {g : Nat} {A : Option Addr} {c : Nat} {D : List Nat} {K : Nat}
theorem Cur.lt (h : Cur w g A c D K) : g < w.heap.size := by
  obtain ⟨a, s, _, _, hb⟩ := h.box
  exact hb.lt
theorem Cur.more (h : Cur w g A c D K) {K' : Nat} (hK : K ≤ K') : Cur w g A c D K' := by
  obtain ⟨a, s, h1, h2, hb⟩ := h.box
  exact ⟨h.lies, h.apart, h.bytes, h.len, a, s, Nat.le_trans h1 hK, h2, hb⟩
/-- Nothing of the cursor's is touched. -/
theorem Cur.turn (h : Cur w g A c D K) (hs : w.heap.size ≤ w'.heap.size) (hk : ∀ k, k < w.heap.size → (k = g ∨ ∃ o, 0 < D.length ∧ A = some ⟨k, o, none⟩) → w'.heap[k]? = w.heap[k]?) : Cur w' g A c D K := by
  have hlt := h.lt
  obtain ⟨a, s, h1, h2, hb⟩ := h.box
  exact ⟨h.lies.turn hs fun b o hl hA hb => hk b hb (.inr ⟨o, hl, hA⟩), h.apart, h.bytes, h.len, a, s, h1, h2, (hk g hlt (.inl rfl)).trans hb⟩
theorem Cur.below (h : Cur w g A c D K) (hb : Below w.heap.size w w') : Cur w' g A c D K := h.turn hb.size fun k hk _ => hb.block k hk
theorem Cur.drew (h : Cur w g A c D K) (n : Nat) : Cur (w.drewN n) g A c D K := h.turn (Nat.le_refl _) fun _ _ _ => rfl
/-- The cursor's own numbers are set anew. -/
theorem Cur.set (h : Cur w g A c D K) {K' : Nat} (a s : Nat) (ha : a ≤ K') (hs : s < 65521) (hb : Box w' g 63 #[.slice A D.length c, .int .i64 a, .int .i64 s]) (hg : w.grownBy w' (some g)) : Cur w' g A c D K' :=
  ⟨h.lies.grown hg h.apart, h.apart, h.bytes, h.len, a, s, ha, hs, hb⟩
end
theorem grownBy_setCell (w : World) (g i : Nat) (v : Value) : w.grownBy (w.setCell ⟨g, i, none⟩ v) (some g) := by
  have h := (Below.refl 0 w).setCell (p := ⟨g, i, none⟩) (Nat.zero_le _) v
  exact ⟨h.os, h.tape, h.output, h.size, fun k _ hk => Below.heap_setCell w ⟨g, i, none⟩ v k (fun e => hk (congrArg some e))⟩
theorem grownBy_drew (w : World) (n : Nat) (row : Option Nat) : w.grownBy (w.drewN n) row := ⟨rfl, rfl, rfl, Nat.le_refl _, fun _ _ _ => rfl⟩

/-- A number was drawn: what holds then. -/
def Drew (w : World) (g : Nat) (A : Option Addr) (c : Nat) (D : List Nat) (K : Nat) (n : Int) (e : Ending) (w' : World) : Prop :=
  ∃ r : Nat, e = .returned (.int .i64 r) ∧ (2 ≤ n → (r : Int) < n) ∧ (n < 2 → r = 0) ∧ Cur w' g A c D (K + 1) ∧ w.grownBy w' (some g)

set_option maxHeartbeats 400000 in
theorem pick_small (g : Nat) (A : Option Addr) (c : Nat) (D : List Nat) (K : Nat) (n : Int) (w : World) (h : Cur w g A c D K) (hn : n < 2) :
    Calls Tryd.prog 18 #[.pointer (some ⟨g, 0, none⟩), .int .i64 n] w (Drew w g A c D K n) := by
  have H := Lib.hid h
  clear h
  go_enter Tryd.func18, Tryd.ntmps18
  go_wp2
  go_ret
  exact ⟨0, rfl, fun h => by omega, fun _ => rfl, H.out.more (Nat.le_succ _), World.grownBy.refl _ _⟩

theorem rem_form (x : Nat) (n : Nat) (hn : 2 ≤ n) : (x : Int).tmod (n : Int) = ((x % n : Nat) : Int) := by
  rw [Int.tmod_eq_emod_of_nonneg (by omega)]
  simp

set_option maxHeartbeats 800000 in
theorem pick_code (g : Nat) (A : Option Addr) (c : Nat) (D : List Nat) (K : Nat) (n : Nat) (w : World) (h : Cur w g A c D K) (hn : 2 ≤ n) (hn2 : n ≤ 9223372036854775807) (a s : Nat) (haK : a ≤ K) (hs : s < 65521) (hbox : Box w g 63 #[.slice A D.length c, .int .i64 a, .int .i64 s]) (hK : K ≤ 4611686018427387904) (hlt : a < D.length) :
    Calls Tryd.prog 18 #[.pointer (some ⟨g, 0, none⟩), .int .i64 n] w (Drew w g A c D K n) := by
  have H := Lib.hid h
  obtain ⟨b, o, x, rfl, hbl, hx, hc⟩ := h.lies.at_ hlt
  have hx8 := h.bytes x (List.mem_of_getElem? hx)
  have hbg : b ≠ g := h.apart b o (by omega) rfl
  have f0 := hbox.cell 0
  have f1 := hbox.cell 1
  have f2 := hbox.cell 2
  have z1 := hbox.frozen 1
  have z2 := hbox.frozen 2
  have hgl := hbox.lt
  simp only [List.getElem?_toArray, List.getElem?_cons_zero, List.getElem?_cons_succ] at f0 f1 f2
  have t1 : decide ((a : Int) < (D.length : Int)) = true := by simp; omega
  have t1n : decide (a < D.length) = true := by simp; omega
  have hrem := rem_form x n hn
  have HB := Lib.hid hbox
  have hlen := h.len
  clear h hx hbox
  go_enter Tryd.func18, Tryd.ntmps18
  go_wp2
  go_quiet (fail)
  go_wp2
  go_quiet (fail)
  go_wp2
  go_ret
  refine ⟨x % n, ret_int (by simp), fun _ => Int.ofNat_lt.2 (Nat.mod_lt _ (by omega)), fun h => by omega, ?_, (grownBy_drew _ _ _).trans (grownBy_setCell _ _ _ _)⟩
  exact H.out.set (a + 1) s (by omega) hs ((HB.out.draw _).put 1 _) ((grownBy_drew _ _ _).trans (grownBy_setCell _ _ _ _))

set_option maxHeartbeats 800000 in
theorem pick_rest (g : Nat) (A : Option Addr) (c : Nat) (D : List Nat) (K : Nat) (n : Nat) (w : World) (h : Cur w g A c D K) (hn : 2 ≤ n) (hn2 : n ≤ 9223372036854775807) (a s : Nat) (haK : a ≤ K) (hs : s < 65521) (hbox : Box w g 63 #[.slice A D.length c, .int .i64 a, .int .i64 s]) (hK : K ≤ 4611686018427387904) (hge : D.length ≤ a) :
    Calls Tryd.prog 18 #[.pointer (some ⟨g, 0, none⟩), .int .i64 n] w (Drew w g A c D K n) := by
  have H := Lib.hid h
  have f0 := hbox.cell 0
  have f1 := hbox.cell 1
  have f2 := hbox.cell 2
  have z1 := hbox.frozen 1
  have z2 := hbox.frozen 2
  have hgl := hbox.lt
  simp only [List.getElem?_toArray, List.getElem?_cons_zero, List.getElem?_cons_succ] at f0 f1 f2
  have t1 : decide ((a : Int) < (D.length : Int)) = false := by simp; omega
  have t1n : decide (a < D.length) = false := by simp; omega
  obtain ⟨q, hq⟩ : ∃ q, (s * 1103 + 12345) % 65521 = q := ⟨_, rfl⟩
  have hqi : ((s : Int) * 1103 + 12345) % 65521 = (q : Int) := by omega
  have hqt : ((s : Int) * 1103 + 12345).tmod 65521 = (q : Int) := by rw [IntWalk.rem_in _ _ (by omega)]; omega
  have hq5 : q < 65521 := by omega
  have HB := Lib.hid hbox
  have hlen := h.len
  by_cases h0 : D.length = 0
  · have t2 : decide ((0 : Int) < (D.length : Int)) = false := decide_eq_false (by omega)
    have t2n : decide (0 < D.length) = false := decide_eq_false (by omega)
    clear h hbox hq h0
    go_enter Tryd.func18, Tryd.ntmps18
    go_wp2
    go_quiet (fail)
    go_wp2
    go_ret
    have hg := ((grownBy_drew w nq (some g)).trans (grownBy_setCell _ g 2 (Value.int IntKind.i64 (q : Int)))).trans (grownBy_setCell _ g 1 (Value.int IntKind.i64 ((a : Int) + 1)))
    exact ⟨0, rfl, fun _ => by omega, fun h => by omega, H.out.set (a + 1) q (by omega) hq5 (((HB.out.draw _).put 2 _).put 1 _) hg, hg⟩
  · obtain ⟨i, hi⟩ : ∃ i, a % D.length = i := ⟨_, rfl⟩
    have hil : i < D.length := by rw [← hi]; exact Nat.mod_lt _ (by omega)
    have hit : (a : Int).tmod (D.length : Int) = (i : Int) := by
      rw [Int.tmod_eq_emod_of_nonneg (by omega), ← hi]
      simp
    obtain ⟨b, o, x, rfl, hbl, hx, hc⟩ := h.lies.at_ hil
    have hx8 := h.bytes x (List.mem_of_getElem? hx)
    have hbg : b ≠ g := h.apart b o (by omega) rfl
    have t2 : decide ((0 : Int) < (D.length : Int)) = true := by simp; omega
    have t2n : decide (0 < D.length) = true := by simp; omega
    have h0i : ((D.length : Int) == 0) = false := by rw [beq_eq_false_iff_ne]; omega
    obtain ⟨y, hy⟩ : ∃ y, q / 7 + x = y := ⟨_, rfl⟩
    have hyi : (q : Int) / 7 + (x : Int) = (y : Int) := by omega
    have hy1 : IntKind.i64.wrap ((q : Int) / 7) = (q : Int) / 7 := IntWalk.i64_in _ (by omega)
    have hy2 : IntKind.i64.wrap ((q : Int) / 7 + (x : Int)) = (y : Int) := by rw [hyi]; exact IntWalk.i64_in _ (by omega)
    have hrem := rem_form y n hn
    clear h hbox hq hi hx hy
    go_enter Tryd.func18, Tryd.ntmps18
    go_wp2
    go_quiet (fail)
    go_wp2
    go_quiet (fail)
    go_wp2
    go_ret
    refine ⟨y % n, ret_int (by simp), fun _ => Int.ofNat_lt.2 (Nat.mod_lt _ (by omega)), fun h => by omega, ?_, ?_⟩
    · refine H.out.set (a + 1) q (by omega) hq5 ((((HB.out.draw _).put 2 _).draw _).put 1 _) ?_
      exact (((grownBy_drew w _ (some g)).trans (grownBy_setCell _ g 2 _)).trans (grownBy_drew _ _ _)).trans (grownBy_setCell _ g 1 _)
    · exact (((grownBy_drew w _ (some g)).trans (grownBy_setCell _ g 2 _)).trans (grownBy_drew _ _ _)).trans (grownBy_setCell _ g 1 _)

theorem pick_any (g : Nat) (A : Option Addr) (c : Nat) (D : List Nat) (K : Nat) (n : Int) (w : World) (h : Cur w g A c D K) (hn2 : n ≤ 9223372036854775807) (hK : K ≤ 4611686018427387904) :
    Calls Tryd.prog 18 #[.pointer (some ⟨g, 0, none⟩), .int .i64 n] w (Drew w g A c D K n) := by
  by_cases hn : n < 2
  · exact pick_small g A c D K n w h hn
  · obtain ⟨m, rfl⟩ := Int.eq_ofNat_of_zero_le (show 0 ≤ n by omega)
    obtain ⟨a, s, haK, hs, hbox⟩ := h.box
    by_cases hlt : a < D.length
    · exact pick_code g A c D K m w h (by omega) (by omega) a s haK hs hbox hK hlt
    · exact pick_rest g A c D K m w h (by omega) (by omega) a s haK hs hbox hK (by omega)

end Go.Proofs.YtoehgcakfblblaaDoor

/- The specification's raw and wide draws. -/
namespace Go.Proofs.YtoehgcakfblblaaDoor
open Go.RowKit
set_option maxRecDepth 100000

/-- Some number was drawn, by at most k picks. -/
def DrewI (w : World) (g : Nat) (A : Option Addr) (c : Nat) (D : List Nat) (K : Nat) (e : Ending) (w' : World) : Prop :=
  ∃ r : Int, e = .returned (.int .i64 r) ∧ (-9223372036854775808 ≤ r ∧ r ≤ 9223372036854775807) ∧ Cur w' g A c D K ∧ w.grownBy w' (some g)

/-- A table of numbers that was just made. -/
theorem table_at {w : World} {b : Nat} {t : TypeId} {L : List Int} (h : Box w b t (L.map I).toArray) {i : Nat} (hi : i < L.length) : ∃ v, v ∈ L ∧ w.cell? ⟨b, i, none⟩ = some (.int .i64 v) := by
  refine ⟨L[i], List.getElem_mem hi, ?_⟩
  rw [h.cell, List.getElem?_toArray, List.getElem?_map, List.getElem?_eq_getElem hi]
  rfl
theorem box_kept {w w' : World} {g b : Nat} {t : TypeId} {cs : Array Value} (h : Box w b t cs) (hg : w.grownBy w' (some g)) (hne : b ≠ g) : Box w' b t cs :=
  h.grown hg fun e => hne (Option.some.inj e).symm
theorem cur_alloc {w : World} {g : Nat} {A : Option Addr} {c : Nat} {D : List Nat} {K : Nat} (h : Cur w g A c D K) (o : Obj) : Cur (w.alloc o) g A c D K := h.below ((Below.refl _ _).alloc (Nat.le_refl _) o)

set_option maxHeartbeats 800000 in
theorem raw_any (g : Nat) (A : Option Addr) (c : Nat) (D : List Nat) (K : Nat) (w : World) (h : Cur w g A c D K) (hK : K ≤ 4611686018427387000) :
    Calls Tryd.prog 19 #[.pointer (some ⟨g, 0, none⟩)] w (DrewI w g A c D (K + 2)) := by
  go_enter Tryd.func19, Tryd.ntmps19
  go_wp2_with fail
  refine (pick_any g A c D K 8 w h (by omega) (by omega)).mono ?_
  rintro e w1 ⟨r, rfl, hr, _, hc1, hg1⟩
  have hr8 : (r : Int) < 8 := hr (by omega)
  have HG := Lib.hid hg1
  clear hr hg1 h
  by_cases h0 : r = 0
  · have t0 : ((r : Int) == 0) = true := by rw [beq_iff_eq]; omega
    clear h0
    go_wp2_with fail
    refine (pick_any g A c D (K + 1) 256 w1 hc1 (by omega) (by omega)).mono ?_
    rintro e w2 ⟨q, rfl, hq, _, hc2, hg2⟩
    have hq2 : (q : Int) < 256 := hq (by omega)
    have HC := Lib.hid hc2
    have HG2 := Lib.hid hg2
    clear hq hg2 hc1 hc2
    go_wp2
    go_ret
    exact ⟨(q : Int) - 128, rfl, by omega, HC.out, HG.out.trans HG2.out⟩
  · have t0 : ((r : Int) == 0) = false := by rw [beq_eq_false_iff_ne]; omega
    by_cases h1 : r = 1
    · have t1 : ((r : Int) == 1) = true := by rw [beq_iff_eq]; omega
      clear h0 h1
      go_wp2_with fail
      have hbx := Box.made w1 3 #[Value.int IntKind.i64 9223372036854775807, Value.int IntKind.i64 (-9223372036854775808), Value.int IntKind.i64 4611686018427387904, Value.int IntKind.i64 4294967295, Value.int IntKind.i64 4294967296, Value.int IntKind.i64 (-1000), Value.int IntKind.i64 1000, Value.int IntKind.i64 257]
      have hlt := hc1.lt
      refine (pick_any g A c D (K + 1) 8 _ (cur_alloc hc1 _) (by omega) (by omega)).mono ?_
      rintro e w2 ⟨q, rfl, hq, _, hc2, hg2⟩
      have hq2 : (q : Int) < 8 := hq (by omega)
      have hb2 := box_kept hbx hg2 (by omega)
      obtain ⟨v, hv, hcell⟩ := table_at (L := [9223372036854775807, -9223372036854775808, 4611686018427387904, 4294967295, 4294967296, -1000, 1000, 257]) hb2 (i := q) (by simp; omega)
      have hvb : -9223372036854775808 ≤ v ∧ v ≤ 9223372036854775807 := by
        simp at hv
        omega
      have HV := Lib.hid hvb
      have HC := Lib.hid hc2
      have HG2 := Lib.hid ((World.grownBy_alloc w1 _ (some g)).trans hg2)
      clear hq hg2 hc1 hc2 hb2 hbx hv hvb
      go_wp2
      go_ret
      exact ⟨v, rfl, HV.out, HC.out, HG.out.trans HG2.out⟩
    · have t1 : ((r : Int) == 1) = false := by rw [beq_eq_false_iff_ne]; omega
      clear h0 h1
      go_wp2_with fail
      refine (pick_any g A c D (K + 1) 14 w1 hc1 (by omega) (by omega)).mono ?_
      rintro e w2 ⟨q, rfl, hq, _, hc2, hg2⟩
      have hq2 : (q : Int) < 14 := hq (by omega)
      have HC := Lib.hid hc2
      have HG2 := Lib.hid hg2
      clear hq hg2 hc1 hc2
      go_wp2
      go_ret
      exact ⟨(q : Int) - 3, rfl, by omega, HC.out, HG.out.trans HG2.out⟩

/-- A number below n was drawn, by at most three picks. -/
def DrewW (w : World) (g : Nat) (A : Option Addr) (c : Nat) (D : List Nat) (K n : Nat) (e : Ending) (w' : World) : Prop :=
  ∃ r : Nat, e = .returned (.int .i64 r) ∧ r < n ∧ r < 16777216 ∧ Cur w' g A c D K ∧ w.grownBy w' (some g)

set_option maxHeartbeats 800000 in
theorem wide_any (g : Nat) (A : Option Addr) (c : Nat) (D : List Nat) (K n : Nat) (w : World) (h : Cur w g A c D K) (hn : 1 ≤ n) (hn2 : n ≤ 9223372036854775807) (hK : K ≤ 4611686018427387000) :
    Calls Tryd.prog 33 #[.pointer (some ⟨g, 0, none⟩), .int .i64 n] w (DrewW w g A c D (K + 3) n) := by
  go_enter Tryd.func33, Tryd.ntmps33
  go_wp2_with fail
  refine (pick_any g A c D K 256 w h (by omega) (by omega)).mono ?_
  rintro e w1 ⟨r1, rfl, hr1, _, hc1, hg1⟩
  have hq1 : (r1 : Int) < 256 := hr1 (by omega)
  have HG1 := Lib.hid hg1
  clear hr1 hg1 h
  go_wp2_with fail
  refine (pick_any g A c D (K + 1) 256 w1 hc1 (by omega) (by omega)).mono ?_
  rintro e w2 ⟨r2, rfl, hr2, _, hc2, hg2⟩
  have hq2 : (r2 : Int) < 256 := hr2 (by omega)
  have HG2 := Lib.hid hg2
  clear hr2 hg2 hc1
  go_wp2_with fail
  refine (pick_any g A c D (K + 2) 256 w2 hc2 (by omega) (by omega)).mono ?_
  rintro e w3 ⟨r3, rfl, hr3, _, hc3, hg3⟩
  have hq3 : (r3 : Int) < 256 := hr3 (by omega)
  have HG3 := Lib.hid hg3
  have HC := Lib.hid hc3
  clear hr3 hg3 hc2 hc3
  obtain ⟨y, hy⟩ : ∃ y, 65536 * r1 + 256 * r2 + r3 = y := ⟨_, rfl⟩
  have hyi : 65536 * (r1 : Int) + 256 * (r2 : Int) + (r3 : Int) = (y : Int) := by omega
  have hn0 : ((n : Int) == 0) = false := by rw [beq_eq_false_iff_ne]; omega
  have hrem : (y : Int).tmod (n : Int) = ((y % n : Nat) : Int) := by
    rw [Int.tmod_eq_emod_of_nonneg (by omega)]
    simp
  have hy24 : y < 16777216 := by omega
  clear hy
  go_wp2
  go_ret
  refine ⟨y % n, ret_int (by simp), Nat.mod_lt _ (by omega), Nat.lt_of_le_of_lt (Nat.mod_le _ _) hy24, HC.out, (HG1.out.trans HG2.out).trans HG3.out⟩

end Go.Proofs.YtoehgcakfblblaaDoor

/- The cursor opened, the draw of VarOf, and the laws' own pick. -/
namespace Go.Proofs.YtoehgcakfblblaaDoor
open Go.RowKit
set_option maxRecDepth 100000

set_option maxHeartbeats 400000 in
theorem open_any (A : Option Addr) (c : Nat) (D : List Nat) (w : World) (hD : Lies w B8 A D) (hw : ∀ x ∈ D, x < 2 ^ 8) (hl : D.length ≤ 1048576) :
    Calls Tryd.prog 16 #[.slice A D.length c] w fun e w' => e = .returned (.pointer (some ⟨w.heap.size, 0, none⟩)) ∧ Cur w' w.heap.size A c D 0 ∧ Below w.heap.size w w' := by
  obtain ⟨q, hq⟩ : ∃ q, 89 + D.length % 1000 = q := ⟨_, rfl⟩
  have hqi : 89 + (D.length : Int) % 1000 = (q : Int) := by omega
  have hq5 : q < 65521 := by omega
  have HD := Lib.hid hD
  have HW := Lib.hid hw
  clear hD hw hq
  go_enter Tryd.func16, Tryd.ntmps16
  go_wp2
  go_ret
  have hb : Below w.heap.size w (w.alloc (.cells #[.slice A D.length c, .int .i64 0, .int .i64 q] 63)) := (Below.refl _ _).alloc (Nat.le_refl _) _
  refine ⟨rfl, ⟨HD.out.below hb, ?_, HW.out, hl, 0, q, Nat.le_refl _, hq5, Box.made _ _ _⟩, hb⟩
  intro b o hl0 hA e
  obtain ⟨b', o', _, hA', hb', _⟩ := HD.out.at_ hl0
  rw [hA] at hA'
  injection hA' with hA'
  injection hA' with e1 e2
  omega

/-- Some number that VarOf is tried at. -/
def DrewV (w : World) (e : Ending) (w' : World) : Prop := ∃ r : Int, e = .returned (.int .i64 r) ∧ (-9223372036854775808 ≤ r ∧ r ≤ 9223372036854775807) ∧ Below w.heap.size w w'

theorem grown_below2 {w w1 w2 : World} {g : Nat} (hb : Below w.heap.size w w1) (hg : w1.grownBy w2 (some g)) (hge : w.heap.size ≤ g) : Below w.heap.size w w2 :=
  ⟨hg.os.trans hb.os, hg.tape.trans hb.tape, hg.output.trans hb.output, Nat.le_trans hb.size hg.size, fun k hk => (hg.block k (Nat.lt_of_lt_of_le hk hb.size) (fun e => by have := Option.some.inj e; omega)).trans (hb.block k hk)⟩

set_option maxHeartbeats 400000 in
theorem big_any (A : Option Addr) (n c : Nat) (w : World) :
    Calls Tryd.prog 4 #[.slice A n c] w fun e w' => e = .returned (.bool (decide (1048576 < n))) ∧ w = w' := by
  go_enter Tryd.func4, Tryd.ntmps4
  go_wp2
  go_ret
  exact ⟨ret_bool (by rw [Bool.eq_iff_iff]; simp; omega), rfl⟩

/-- What the laws' pick returns. -/
def LPick (n : Int) (r : Nat) : Prop := (2 ≤ n → (r : Int) < n) ∧ (n < 2 → r = 0)

set_option maxHeartbeats 800000 in
theorem lpick_any (A : Option Addr) (c : Nat) (D : List Nat) (a : Nat) (n : Int) (w : World) (hD : Lies w B8 A D) (hw : ∀ x ∈ D, x < 2 ^ 8) (hl : D.length ≤ 1048576) (ha : a ≤ 1000) (hn2 : n ≤ 9223372036854775807) :
    Calls Tryd.prog 12 #[.slice A D.length c, .int .i64 a, .int .i64 n] w fun e w' => ∃ r : Nat, e = .returned (.int .i64 r) ∧ LPick n r ∧ w = w' := by
  by_cases h0 : D.length = 0
  · have t1 : ((D.length : Int) == 0) = true := by rw [beq_iff_eq]; omega
    have t1n : (D.length == 0) = true := by rw [beq_iff_eq]; omega
    clear hD hw
    rw [h0]
    go_enter Tryd.func12, Tryd.ntmps12
    go_wp2
    go_ret
    exact ⟨0, rfl, ⟨fun h => by omega, fun _ => rfl⟩, rfl⟩
  · have t1 : ((D.length : Int) == 0) = false := by rw [beq_eq_false_iff_ne]; omega
    have hnl : ¬ ((D.length : Int) = 0) := by omega
    by_cases hn : n < 2
    · have t2 : decide (n < 2) = true := by simpa using hn
      clear hD hw
      go_enter Tryd.func12, Tryd.ntmps12
      go_wp2
      go_ret
      exact ⟨0, rfl, ⟨fun h => by omega, fun _ => rfl⟩, rfl⟩
    · have t2 : decide (n < 2) = false := by simpa using hn
      obtain ⟨m, rfl⟩ := Int.eq_ofNat_of_zero_le (show 0 ≤ n by omega)
      have HW := Lib.hid hw
      have hdl : 0 < D.length := by omega
      clear hw h0
      go_enter Tryd.func12, Tryd.ntmps12
      go_wp2
      go_loop [7, 8] (fun q j => ∃ x k : Nat, k ≤ 3 ∧ x ≤ 1000 * 256 ^ k ∧ x ≤ 16777216000 ∧ q = .int .i64 x ∧ j = .int .i64 k) (fun _ j => 3 - (intOf j).toNat)
      case atStart => exact ⟨0, 0, by omega, by omega, by omega, rfl, rfl⟩
      case round =>
        obtain ⟨x, k, hk, hxk, hx9, rfl, rfl⟩ := hrel
        by_cases hlt : k < 3
        · obtain ⟨i, hi⟩ : ∃ i, (a + k) % D.length = i := ⟨_, rfl⟩
          have hil : i < D.length := by rw [← hi]; exact Nat.mod_lt _ hdl
          have hit : ((a : Int) + (k : Int)).tmod (D.length : Int) = (i : Int) := by
            rw [Int.tmod_eq_emod_of_nonneg (by omega), ← hi]
            simp
          have hie : ((a : Int) + (k : Int)) % (D.length : Int) = (i : Int) := by
            rw [← hi]
            simp
          obtain ⟨b, o, y, rfl, hbl, hy, hc⟩ := hD.at_ hil
          have hy8 := HW.out y (List.mem_of_getElem? hy)
          have hxn : 31 * x + y ≤ 1000 * 256 ^ (k + 1) ∧ 31 * x + y ≤ 16777216000 := by
            have h1 : 1 ≤ 256 ^ k := Nat.pow_pos (by decide)
            have h2 : 256 ^ (k + 1) ≤ 256 ^ 3 := Nat.pow_le_pow_right (by decide) (by omega)
            rw [Nat.pow_succ] at h2 ⊢
            omega
          clear hy hi hxk hD
          go_wp2
          go_round
          case rel => exact ⟨31 * x + y, k + 1, by omega, hxn.1, hxn.2, by go_num, by go_num⟩
          case measure => simp [intOf]; omega
        · obtain ⟨y, hy⟩ : ∃ y, x + a = y := ⟨_, rfl⟩
          have hyi : (x : Int) + (a : Int) = (y : Int) := by omega
          have hrem := rem_form y m (by omega)
          clear hxk hD hy
          go_wp2
          go_ret
          exact ⟨y % m, ret_int (by simp), ⟨fun _ => Int.ofNat_lt.2 (Nat.mod_lt _ (by omega)), fun h => by omega⟩, rfl⟩

end Go.Proofs.YtoehgcakfblblaaDoor
