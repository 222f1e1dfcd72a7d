import Derived.WalkKit
import Derived.WalkSpells
import Derived.WalkLawsBesides
import Derived.Deep.AppendLies
import Derived.Deep.OwnRows
import Derived.BigQuiet
import Derived.Deep.QuietTactic
import Derived.Lib.Hide
import Derived.Handy
import Derived.StillTailTactics
import Derived.Deep.RegionWith
import Derived.Deep.RegionHeld3
/- Words of my own for memory, over which all walks of this seat are stated: a list whose values lie at an address, one a cell, and how it outlives what a call does. Nothing of the program stands here. -/
namespace Go.Proofs.Ytoehgcakfblblaa
open Go.RowKit

/-- A word as a value. -/
abbrev U (x : Nat) : Value := .int .u64 (x : Int)
/-- A byte as a value. -/
abbrev B8 (x : Nat) : Value := .int .u8 (x : Int)
/-- A number as a value. -/
abbrev I (x : Int) : Value := .int .i64 x

section
variable {α : Type} {f : α → Value}

/-- The values of L lie, one a cell, at the address A (a letter where L is empty). -/
def Lies (w : World) (f : α → Value) (A : Option Addr) (L : List α) : Prop :=
  ∀ i x, L[i]? = some x → ∃ b o, A = some ⟨b, o, none⟩ ∧ b < w.heap.size ∧ w.cell? ⟨b, o + i, none⟩ = some (f x)

theorem Lies.at_ {w : World} {A : Option Addr} {L : List α} (h : Lies w f A L) {i : Nat} (hi : i < L.length) :
    ∃ b o x, A = some ⟨b, o, none⟩ ∧ b < w.heap.size ∧ L[i]? = some x ∧ w.cell? ⟨b, o + i, none⟩ = some (f x) := by
  obtain ⟨b, o, h1, h2, h3⟩ := h i _ (List.getElem?_eq_getElem hi)
  exact ⟨b, o, _, h1, h2, List.getElem?_eq_getElem hi, h3⟩

theorem Lies.nil_ {w : World} {A : Option Addr} : Lies w f A [] := fun i x h => by simp at h

theorem Lies.below {w w' : World} {A : Option Addr} {L : List α} (h : Lies w f A L) (hb : Below w.heap.size w w') : Lies w' f A L := fun i x hx => by
  obtain ⟨b, o, h1, h2, h3⟩ := h i x hx
  exact ⟨b, o, h1, Nat.lt_of_lt_of_le h2 hb.size, (hb.cell (p := ⟨b, o + i, none⟩) h2).trans h3⟩

theorem Lies.of_own {w : World} {base : Nat} {e : TypeId} {A : Option Addr} {n c : Nat} {L : List α}
    (h : w.ownsRow base e 1 (.slice A n c) n (L.map f)) : Lies w f A L := fun i x hx => by
  have hl : i < L.length := (List.getElem?_eq_some_iff.1 hx).1
  have hn : n = L.length := by have := h.1; simp at this; omega
  obtain ⟨g, cap, hv, _, hlt⟩ := h.form (by omega)
  injection hv with e1 e2 e3
  subst e1
  refine ⟨g, 0, rfl, hlt, ?_⟩
  rw [Nat.zero_add, h.cellAt i (by omega)]
  simp [hx]

theorem Lies.drew {w : World} {A : Option Addr} {L : List α} (h : Lies w f A L) : Lies w.drew f A L := h
theorem Lies.drewN {w : World} {A : Option Addr} {L : List α} (h : Lies w f A L) (n : Nat) : Lies (w.drewN n) f A L := h

/-- A piece of it: from a on, and up to b. -/
theorem Lies.piece {w : World} {b o : Nat} {L : List α} (h : Lies w f (some ⟨b, o, none⟩) L) (i : Nat) (m : Nat) : Lies w f (some ⟨b, o + i, none⟩) ((L.drop i).take m) := fun j x hx => by
  have hj : L[i + j]? = some x := by
    rw [List.getElem?_take] at hx
    split at hx
    · rwa [List.getElem?_drop] at hx
    · cases hx
  obtain ⟨b', o', h1, h2, h3⟩ := h (i + j) x hj
  injection h1 with h1
  injection h1 with e1 e2
  subst e1 e2
  exact ⟨b, o + i, rfl, h2, by rw [Nat.add_assoc]; exact h3⟩

theorem Lies.front {w : World} {A : Option Addr} {L : List α} (h : Lies w f A L) (m : Nat) : Lies w f A (L.take m) := fun j x hx => by
  rw [List.getElem?_take] at hx
  split at hx
  · exact h j x hx
  · cases hx

/-- What a copy holds after m of its rounds. -/
def copied (f : α → Value) (z : Value) (L : List α) (m : Nat) : List Value := (L.take m).map f ++ List.replicate (L.length - m) z
theorem copied_zero (z : Value) (L : List α) : copied f z L 0 = List.replicate L.length z := by simp [copied]
theorem copied_all (z : Value) (L : List α) : copied f z L L.length = L.map f := by simp [copied]
theorem copied_succ (z : Value) (L : List α) (m : Nat) (x : α) (h : L[m]? = some x) : copied f z L (m + 1) = (copied f z L m).set m (f x) := by
  obtain ⟨hm, rfl⟩ := List.getElem?_eq_some_iff.1 h
  have e1 : L.length - m = (L.length - (m + 1)) + 1 := by omega
  have e2 : ((L.take m).map f).length = m := by simp; omega
  unfold copied
  rw [List.take_succ_eq_append_getElem hm, e1, List.replicate_succ, List.set_append_right _ _ (by omega), e2, Nat.sub_self]
  simp only [List.map_append, List.map_cons, List.map_nil, List.append_assoc, List.set_cons_zero, List.cons_append, List.nil_append]
theorem copied_get (z : Value) (L : List α) (m : Nat) (h : m < L.length) : (copied f z L m)[m]? = some z := by
  have e2 : ((L.take m).map f).length = m := by simp; omega
  unfold copied
  rw [List.getElem?_append_right (by omega), e2, Nat.sub_self, List.getElem?_replicate, if_pos (by omega)]
theorem copied_len (z : Value) (L : List α) (m : Nat) (h : m ≤ L.length) : (copied f z L m).length = L.length := by
  simp [copied]; omega

theorem take_same_succ {L M : List α} {k : Nat} {x : α} (h : L.take k = M.take k) (hx : L[k]? = some x) (hy : M[k]? = some x) : L.take (k + 1) = M.take (k + 1) := by
  rw [List.take_add_one, List.take_add_one, h, hx, hy]
theorem ne_of_at {L M : List α} {k : Nat} {x y : α} (hx : L[k]? = some x) (hy : M[k]? = some y) (h : x ≠ y) : L ≠ M := fun e => h (by subst e; rw [hx] at hy; exact Option.some.inj hy)
end

theorem below_dN {B : Nat} {a w : World} (h : Below B a w) (n : Nat) : Below B a (w.drewN n) := ⟨h.os, h.tape, h.output, h.size, h.block⟩

/-- The world but for draws. -/
def Drawn (w w' : World) : Prop := ∃ n, w' = w.drewN n
theorem Drawn.refl (w : World) : Drawn w w := ⟨0, rfl⟩
theorem Drawn.more {w w' : World} (h : Drawn w w') (n : Nat) : Drawn w (w'.drewN n) := by obtain ⟨m, rfl⟩ := h; exact ⟨m + n, by simp⟩
theorem Drawn.two (w : World) (a b : Nat) : Drawn w ((w.drewN a).drewN b) := ⟨a + b, by simp⟩
theorem Drawn.below {w w' : World} (h : Drawn w w') (B : Nat) : Below B w w' := by obtain ⟨n, rfl⟩ := h; exact below_dN (Below.refl _ _) n

theorem bcell {W w1 : World} (hb : Below W.heap.size W w1) : (∀ b o, b < W.heap.size → w1.cell? ⟨b, o, none⟩ = W.cell? ⟨b, o, none⟩) ∧ (∀ b o, b < W.heap.size → w1.frozen? ⟨b, o, none⟩ = W.frozen? ⟨b, o, none⟩) :=
  ⟨fun b o h => hb.cell (p := ⟨b, o, none⟩) h, fun b o h => hb.frozen (p := ⟨b, o, none⟩) h⟩

theorem below_then {w a b : World} (h : Below w.heap.size w a) (k : Below a.heap.size a b) : Below w.heap.size w b := h.trans (k.mono h.size)

theorem own_below {w w' : World} {B base : Nat} {e : TypeId} {size : Nat} {v : Value} {n : Nat} {xs : List Value}
    (h : w.ownsRow base e size v n xs) (hb : Below B w w') (hB : w.heap.size ≤ B) : w'.ownsRow base e size v n xs := by
  obtain ⟨h1, h2⟩ := h
  refine ⟨h1, ?_⟩
  rcases h2 with h2 | ⟨g, cap, cur, hv, hg, hh, r⟩
  · exact .inl h2
  · have hlt : g < w.heap.size := by
      rcases Nat.lt_or_ge g w.heap.size with hlt | hge
      · exact hlt
      · rw [Array.getElem?_eq_none hge] at hh; cases hh
    exact .inr ⟨g, cap, cur, hv, hg, by rw [hb.block g (by omega)]; exact hh, r⟩

theorem own_slice {w : World} {base : Nat} {e : TypeId} {size : Nat} {v : Value} {n : Nat} {xs : List Value} (h : w.ownsRow base e size v n xs) : ∃ A c, v = .slice A n c := by
  rcases h.2 with ⟨rfl, rfl⟩ | ⟨g, cap, cur, rfl, _⟩
  · exact ⟨_, _, rfl⟩
  · exact ⟨_, _, rfl⟩

theorem own_mono {w : World} {base base' : Nat} {e : TypeId} {size : Nat} {v : Value} {n : Nat} {xs : List Value}
    (h : w.ownsRow base e size v n xs) (hb : base' ≤ base) : w.ownsRow base' e size v n xs := by
  obtain ⟨h1, h2⟩ := h
  refine ⟨h1, ?_⟩
  rcases h2 with h2 | ⟨g, cap, cur, hv, hg, r⟩
  · exact .inl h2
  · exact .inr ⟨g, cap, cur, hv, by omega, r⟩

/-- Block g is just these cells, none of them frozen. -/
def Box (w : World) (g : Nat) (t : TypeId) (cs : Array Value) : Prop := w.heap[g]? = some (.cells cs t (0, 0))
section
variable {w w' : World} {g : Nat} {t : TypeId} {cs : Array Value}
theorem Box.lt (h : Box w g t cs) : g < w.heap.size := by
  rcases Nat.lt_or_ge g w.heap.size with hlt | hge
  · exact hlt
  · unfold Box at h; rw [Array.getElem?_eq_none hge] at h; cases h
theorem Box.cell (h : Box w g t cs) (i : Nat) : w.cell? ⟨g, i, none⟩ = cs[i]? := cell_of_row w g i cs t (0, 0) h
theorem Box.frozen (h : Box w g t cs) (i : Nat) : w.frozen? ⟨g, i, none⟩ = false := frozen_of_row w g i cs t h
theorem Box.made (w : World) (t : TypeId) (cs : Array Value) : Box (w.alloc (.cells cs t)) w.heap.size t cs := heap_alloc_new w _
theorem Box.draw (h : Box w g t cs) (n : Nat) : Box (w.drewN n) g t cs := h
theorem Box.alloc (h : Box w g t cs) (o : Obj) : Box (w.alloc o) g t cs := (Below.heap_alloc w o g h.lt).trans h
theorem Box.put (h : Box w g t cs) (i : Nat) (u : Value) : Box (w.setCell ⟨g, i, none⟩ u) g t (cs.setIfInBounds i u) := heap_setCell_same w g i cs t u h
theorem Box.off (h : Box w g t cs) {p : Addr} (hp : g ≠ p.block) (u : Value) : Box (w.setCell p u) g t cs := (Below.heap_setCell w p u g hp).trans h
theorem Box.below {B : Nat} (h : Box w g t cs) (hb : Below B w w') (hg : g < B) : Box w' g t cs := (hb.block g hg).trans h
theorem Box.grown {row : Option Nat} (h : Box w g t cs) (hb : w.grownBy w' row) (hg : row ≠ some g) : Box w' g t cs := (hb.block g h.lt (fun e => hg e.symm)).trans h
theorem own_apart {base : Nat} {e : TypeId} {size n : Nat} {v : Value} {xs : List Value} (h : w.ownsRow base e size v n xs) {g : Nat} (hg : g < base) : v.ownBlock ≠ some g := fun he => by have := (h.lt g he).1; omega
end

theorem run_shr_u64 {P : Program} (t : TypeId) (x r : Nat) (hr : r ≤ 64) (W : World) : (binOp .shr t (.int .u64 (x : Int)) (.int .i64 (r : Int))).run P W = .ok (.int .u64 ((x / 2 ^ r : Nat) : Int)) W := by
  have h : min r 64 = r := by omega
  simp [binOp, Op.shift, IntKind.bits, h]
theorem run_shl_u64 {P : Program} (t : TypeId) (x r : Nat) (hr : r ≤ 64) (W : World) : (binOp .shl t (.int .u64 (x : Int)) (.int .i64 (r : Int))).run P W = .ok (.int .u64 ((x * 2 ^ r % 2 ^ 64 : Nat) : Int)) W := by
  have h : min r 64 = r := by omega
  simp [binOp, Op.shift, IntKind.bits, h, IntKind.wrap, IntKind.signed]

theorem ret_bool {a b : Bool} (h : a = b) : Ending.returned (.bool a) = .returned (.bool b) := by rw [h]
theorem ret_int {k : IntKind} {a b : Int} (h : a = b) : Ending.returned (.int k a) = .returned (.int k b) := by rw [h]

end Go.Proofs.Ytoehgcakfblblaa

/- More words of my own: operations on words. Nothing of the program stands here. -/
namespace Go.Proofs.Ytoehgcakfblblaa
open Go.RowKit

theorem run_and_u64 {P : Program} (t : TypeId) (a b : Nat) (ha : a < 2 ^ 64) (hb : b < 2 ^ 64) (W : World) : (binOp .and t (.int .u64 (a : Int)) (.int .u64 (b : Int))).run P W = .ok (.int .u64 ((a &&& b : Nat) : Int)) W := by
  have h : a &&& b < 2 ^ 64 := Nat.and_lt_two_pow _ hb
  simp [binOp, Op.intBits]
  show IntKind.u64.wrap ((a % 2 ^ 64 &&& b % 2 ^ 64 : Nat) : Int) = _
  rw [Nat.mod_eq_of_lt ha, Nat.mod_eq_of_lt hb]
  exact IntWalk.u64_in _ (by omega)
theorem run_and1_u64 {P : Program} (t : TypeId) (a : Nat) (ha : a < 2 ^ 64) (W : World) : (binOp .and t (.int .u64 (a : Int)) (.int .u64 1)).run P W = .ok (.int .u64 ((a % 2 : Nat) : Int)) W := by
  have h := run_and_u64 (P := P) t a 1 ha (by decide) W
  rw [nat_mask1] at h
  exact h
theorem run_or_u64 {P : Program} (t : TypeId) (a b : Nat) (ha : a < 2 ^ 64) (hb : b < 2 ^ 64) (W : World) : (binOp .or t (.int .u64 (a : Int)) (.int .u64 (b : Int))).run P W = .ok (.int .u64 ((a ||| b : Nat) : Int)) W := by
  have h : a ||| b < 2 ^ 64 := Nat.or_lt_two_pow ha hb
  simp [binOp, Op.intBits]
  show IntKind.u64.wrap ((a % 2 ^ 64 ||| b % 2 ^ 64 : Nat) : Int) = _
  rw [Nat.mod_eq_of_lt ha, Nat.mod_eq_of_lt hb]
  exact IntWalk.u64_in _ (by omega)

end Go.Proofs.Ytoehgcakfblblaa

/- More words of my own: rows that lie apart. Nothing of the program stands here. -/
namespace Go.Proofs.Ytoehgcakfblblaa
open Go.RowKit

/-- A row that was there before another one was made lies apart from it. -/
theorem rows_apart {w w' : World} {b b' : Nat} {e e' : TypeId} {s s' n n' : Nat} {v v' : Value} {xs xs' : List Value} (h : w.ownsRow b e s v n xs) (h' : w'.ownsRow b' e' s' v' n' xs') (hb : w.heap.size ≤ b') :
    (v.ownBlock = none ∨ v.ownBlock ≠ v'.ownBlock) ∧ (v'.ownBlock = none ∨ v'.ownBlock ≠ v.ownBlock) := by
  have key : ∀ k, v.ownBlock = some k → v'.ownBlock ≠ some k := fun k hk hk' => by
    have h1 := (h.lt k hk).2
    have h2 := (h'.lt k hk').1
    omega
  constructor
  · cases hv : v.ownBlock with
    | none => exact .inl rfl
    | some k => exact .inr fun e => key k hv e.symm
  · cases hv : v'.ownBlock with
    | none => exact .inl rfl
    | some k => exact .inr fun e => key k e.symm hv

theorem grown_below {w w' : World} {base : Nat} {e : TypeId} {size n : Nat} {v : Value} {xs : List Value} {B : Nat} (h : w.ownsRow base e size v n xs) (hg : w.grownBy w' v.ownBlock) (hB : B ≤ base) (hs : B ≤ w.heap.size) : Below B w w' :=
  (Below.refl B w).grown hg hs fun k hk => Nat.le_trans hB (h.lt k hk).1

theorem box_grown {w w' : World} {base : Nat} {e : TypeId} {size n : Nat} {v : Value} {xs : List Value} {g : Nat} {t : TypeId} {cs : Array Value} (hx : Box w g t cs) (h : w.ownsRow base e size v n xs) (hg : w.grownBy w' v.ownBlock) (hlt : g < base) : Box w' g t cs :=
  hx.grown hg (own_apart h hlt)

/-- A block that was made later than a row is none of its. -/
theorem box_apart {w w' w1 : World} {base : Nat} {e : TypeId} {size n : Nat} {v : Value} {xs : List Value} {g : Nat} {t : TypeId} {cs : Array Value} (hx : Box w g t cs) (h0 : w1.ownsRow base e size v n xs) (hlt : w1.heap.size ≤ g) (hg : w.grownBy w' v.ownBlock) : Box w' g t cs :=
  hx.grown hg fun he => by have := (h0.lt g he).2; omega

end Go.Proofs.Ytoehgcakfblblaa

/- One value appended to a row of the call's own, and where the row then lies: where it was, or in a block that is new. Nothing of the program stands here. -/
namespace Go.Proofs.Ytoehgcakfblblaa
open Go.RowKit

/-- Where an appended row lies. -/
def Moved (w : World) (v v' : Value) : Prop := v'.ownBlock = v.ownBlock ∨ ∃ k, v'.ownBlock = some k ∧ w.heap.size ≤ k

section
variable {P : Program}
theorem wpList_push_own {ops : Array Oper} {rest : List Oper} {o : Oper} {a : Act} {Q : Exit → Act → World → Prop} (hgd : o.guard = none) (s x : Operand) (t e : TypeId)
    (ho : o.op = .call { callee := .builtin .append, args := #[s, x], argTypes := #[t, t] }) (ht : P.underlying t = some (.slice e)) {z : Value} {bytes : Nat} (hinfo : (P.info? e).map (fun i => (i.zero, i.size, i.bytes)) = some (some z, 1, bytes)) (hzs : z.cells.size = 1) (hby : bytes ≤ 1000)
    (base : Nat) (W : World) (v : Value) (n : Nat) (xs : List Value) (hs : a.eval s = v) (hown : W.ownsRow base e 1 v n xs) (y : Value) (hy : y.oneCell' = true) (hx : a.eval x = .slice (some ⟨W.heap.size, 0, none⟩) 1 1) (hb : base ≤ W.heap.size) (hl : n ≤ 1000000)
    (h : ∀ A c w', w'.ownsRow base e 1 (.slice A (n + 1) c) (n + 1) (xs ++ [y]) → W.grownBy w' v.ownBlock → Moved W v (.slice A (n + 1) c) → wpList P ops Q rest (a.put o.dst (.slice A (n + 1) c)) w') :
    wpList P ops Q (o :: rest) a (W.alloc (.cells #[y] e)) := by
  refine wpList_plain hgd fun _ hK => ?_
  obtain ⟨i0, hi, hz⟩ := Option.map_eq_some_iff.1 hinfo
  simp only [Prod.mk.injEq] at hz
  obtain ⟨hz0, hz1, hz2⟩ := hz
  have hcell : ∀ j u, [y][j]? = some u → (W.alloc (.cells #[y] e)).cell? ((⟨W.heap.size, 0, none⟩ : Addr).add j) = some u := by
    intro j u hu
    match j with
    | 0 =>
      obtain rfl : y = u := by simpa using hu
      have hadd : (⟨W.heap.size, 0, none⟩ : Addr).add 0 = ⟨W.heap.size, 0, none⟩ := by unfold Addr.add; split <;> simp_all
      rw [hadd]
      exact (Box.made W e #[y]).cell 0
    | j + 1 => simp at hu
  obtain ⟨v', w', hr, h1, h2, _, h4⟩ := run_append_own_at (P := P) (W.alloc (.cells #[y] e)) base t o.type e i0 z 1 bytes ht hi hz0 hz1 hz2 hzs (by decide) v n xs (hown.alloc _) ⟨W.heap.size, 0, none⟩ 1 1 [y] (by simp) hcell
    (by intro u hu; obtain rfl : u = y := by simpa using hu
        exact hy) (by unfold maxLen; omega) (Nat.le_trans (Nat.mul_le_mul (show n + 1 ≤ 1000001 by omega) hby) (by decide)) (by rw [World.size_alloc]; omega)
  obtain ⟨A, c, rfl⟩ := own_slice h1
  unfold Oper.wp execOp
  simp only [ho, resolve, invoke, builtin, Sem.run_bind, Sem.run_pure, Result.andThen_ok, List.map_toArray, List.map_cons, List.map_nil, hs, hx, hr]
  refine hK _ _ (h A c w' h1 ((World.grownBy_alloc W _ _).trans h2) ?_)
  rcases h4 with h4 | h4
  · exact .inl h4
  · refine .inr ⟨_, h4, ?_⟩
    rw [World.size_alloc]
    omega
end

/-- The block of an owned row holds its type. -/
theorem own_typed {w : World} {base n size : Nat} {e : TypeId} {v : Value} {xs : List Value} (h : w.ownsRow base e size v n xs) {k : Nat} (hk : v.ownBlock = some k) : base ≤ k ∧ k < w.heap.size ∧ ∃ cur, w.heap[k]? = some (.cells cur e (0, 0)) := by
  rcases h.2 with ⟨h2, _⟩ | ⟨g, cap, cur, hv, hg, hh, r⟩
  · rw [h2] at hk
    cases hk
  · rw [hv] at hk
    injection hk with hk
    subst hk
    exact ⟨hg, (Array.getElem?_eq_some_iff.1 hh).1, cur, hh⟩
theorem own_types_apart {w : World} {b b' n n' s s' : Nat} {e e' : TypeId} {v v' : Value} {xs xs' : List Value} (hne : e ≠ e') (h : w.ownsRow b e s v n xs) (h' : w.ownsRow b' e' s' v' n' xs') {k : Nat} (hk : v.ownBlock = some k) : v'.ownBlock ≠ some k := by
  intro hk'
  obtain ⟨_, _, cur, h1⟩ := own_typed h hk
  obtain ⟨_, _, cur', h2⟩ := own_typed h' hk'
  rw [h1] at h2
  injection h2 with h2
  injection h2 with _ h2 _
  exact hne h2
theorem own_turn4 {w w' : World} {b : Nat} {e : TypeId} {size n : Nat} {v : Value} {xs : List Value} (h : w.ownsRow b e size v n xs) (hk : ∀ k, v.ownBlock = some k → w'.heap[k]? = w.heap[k]?) : w'.ownsRow b e size v n xs := by
  obtain ⟨h1, h2⟩ := h
  refine ⟨h1, ?_⟩
  rcases h2 with h2 | ⟨g, cap, cur, hv, hg, hh, r⟩
  · exact .inl h2
  · exact .inr ⟨g, cap, cur, hv, hg, (hk g (by rw [hv]; rfl)).trans hh, r⟩

/-- A list of rows of numbers (lev), and a row of numbers that grows (out). -/
structure LL (ti tl : TypeId) (w0 w : World) (vo : Value) (xo : List Int) (vl : Value) (Q : List Value) (Bs : List (List Int)) : Prop where
  below : Below w0.heap.size w0 w
  out : w.ownsRow w0.heap.size ti 1 vo xo.length (xo.map I)
  lev : w.ownsRow w0.heap.size tl 1 vl Q.length Q
  len : Q.length = Bs.length
  rows : ∀ (j : Nat) (q : Value) (B : List Int), Q[j]? = some q → Bs[j]? = some B → (∃ A c, q = .slice A B.length c) ∧ w.ownsRow w0.heap.size ti 1 q B.length (B.map I)
  apart : ∀ (j : Nat) (q : Value) (k : Nat), Q[j]? = some q → q.ownBlock = some k → vo.ownBlock ≠ some k
section
variable {ti tl : TypeId} {w0 w w' : World} {vo vl : Value} {xo : List Int} {Q : List Value} {Bs : List (List Int)}
theorem LL.more (h : LL ti tl w0 w vo xo vl Q Bs) (hb : Below w.heap.size w w') : LL ti tl w0 w' vo xo vl Q Bs :=
  ⟨below_then h.below hb, own_below h.out hb (Nat.le_refl _), own_below h.lev hb (Nat.le_refl _), h.len, fun j q B hq hB => ⟨(h.rows j q B hq hB).1, own_below (h.rows j q B hq hB).2 hb (Nat.le_refl _)⟩, h.apart⟩
/-- A new row of numbers is put at the end of the list. -/
theorem LL.add (hne : ti ≠ tl) (h : LL ti tl w0 w vo xo vl Q Bs) {A : Option Addr} {c base : Nat} {B : List Int} {vl' : Value} (hB : w.ownsRow base ti 1 (.slice A B.length c) B.length (B.map I)) (hbase : w0.heap.size ≤ base) (hnew : ∀ k, vo.ownBlock = some k → k < base)
    (ho : w'.ownsRow w0.heap.size tl 1 vl' (Q.length + 1) (Q ++ [.slice A B.length c])) (hg : w.grownBy w' vl.ownBlock) : LL ti tl w0 w' vo xo vl' (Q ++ [.slice A B.length c]) (Bs ++ [B]) := by
  have keep : ∀ {v : Value} {n b : Nat} {xs : List Value}, w.ownsRow b ti 1 v n xs → w'.ownsRow b ti 1 v n xs := fun {v n b xs} hv => own_turn4 hv fun k hk => hg.block k (own_typed hv hk).2.1 fun e => own_types_apart hne hv h.lev hk e.symm
  refine ⟨h.below.trans (grown_below h.lev hg (Nat.le_refl _) h.below.size), keep h.out, by rw [List.length_append]; exact ho, by rw [List.length_append, List.length_append, h.len]; rfl, ?_, ?_⟩
  · intro j q B' hq hB'
    rcases Nat.lt_or_ge j Q.length with hj | hj
    · rw [List.getElem?_append_left hj] at hq
      rw [List.getElem?_append_left (by rw [← h.len]; exact hj)] at hB'
      exact ⟨(h.rows j q B' hq hB').1, keep (h.rows j q B' hq hB').2⟩
    · rw [List.getElem?_append_right hj] at hq
      rw [List.getElem?_append_right (by rw [← h.len]; exact hj)] at hB'
      have hj0 : j - Q.length = 0 := by
        rcases Nat.eq_zero_or_pos (j - Q.length) with h0 | h0
        · exact h0
        · rw [List.getElem?_eq_none (by simp; omega)] at hq
          cases hq
      rw [hj0] at hq
      rw [← h.len, hj0] at hB'
      obtain rfl : Value.slice A B.length c = q := by simpa using hq
      obtain rfl : B = B' := by simpa using hB'
      exact ⟨⟨A, c, rfl⟩, keep (own_mono hB hbase)⟩
  · intro j q k hq hk hvo
    rcases Nat.lt_or_ge j Q.length with hj | hj
    · rw [List.getElem?_append_left hj] at hq
      exact h.apart j q k hq hk hvo
    · rw [List.getElem?_append_right hj] at hq
      have hj0 : j - Q.length = 0 := by
        rcases Nat.eq_zero_or_pos (j - Q.length) with h0 | h0
        · exact h0
        · rw [List.getElem?_eq_none (by simp; omega)] at hq
          cases hq
      rw [hj0] at hq
      obtain rfl : Value.slice A B.length c = q := by simpa using hq
      have h1 := hnew k hvo
      have h2 := (hB.lt k hk).1
      omega
/-- A number more. -/
theorem LL.push (hne : ti ≠ tl) (h : LL ti tl w0 w vo xo vl Q Bs) {vo' : Value} {y : Int} (ho : w'.ownsRow w0.heap.size ti 1 vo' (xo.length + 1) (xo.map I ++ [I y])) (hg : w.grownBy w' vo.ownBlock) (hm : Moved w vo vo') : LL ti tl w0 w' vo' (xo ++ [y]) vl Q Bs := by
  refine ⟨h.below.trans (grown_below h.out hg (Nat.le_refl _) h.below.size), by rw [List.length_append, List.map_append]; exact ho, own_turn4 h.lev fun k hk => hg.block k (own_typed h.lev hk).2.1 fun e => own_types_apart (Ne.symm hne) h.lev h.out hk e.symm, h.len, ?_, ?_⟩
  · intro j q B hq hB
    obtain ⟨h1, h2⟩ := h.rows j q B hq hB
    exact ⟨h1, own_turn4 h2 fun k hk => hg.block k (own_typed h2 hk).2.1 fun e => h.apart j q k hq hk e.symm⟩
  · intro j q k hq hk hvo
    have hj : j < Bs.length := by rw [← h.len]; exact (List.getElem?_eq_some_iff.1 hq).1
    obtain ⟨_, h2⟩ := h.rows j q _ hq (List.getElem?_eq_getElem hj)
    rcases hm with hm | ⟨k', hm, hk'⟩
    · rw [hm] at hvo
      exact h.apart j q k hq hk hvo
    · rw [hm] at hvo
      have e := Option.some.inj hvo
      have := (own_typed h2 hk).2.1
      omega
end

end Go.Proofs.Ytoehgcakfblblaa
