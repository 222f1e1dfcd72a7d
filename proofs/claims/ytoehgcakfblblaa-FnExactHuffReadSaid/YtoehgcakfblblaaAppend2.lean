import Derived.Test.YtoehgcakfblblaaMem3
/- A scene: what a law's walk holds of its own memory, newest first, each thing in blocks of its own; how it outlives each step. Nothing of the program stands here. -/
namespace Go.Proofs.Ytoehgcakfblblaa
open Go.RowKit

inductive Item where
  | box (g : Nat) (t : TypeId) (cs : Array Value)
  | row (e : TypeId) (v : Value) (n : Nat) (xs : List Value)

/-- The thing is there, in blocks from lo on and before hi. -/
def Item.ok (w : World) (lo hi : Nat) : Item → Prop
  | .box g t cs => Box w g t cs ∧ lo ≤ g ∧ g < hi
  | .row e v n xs => w.ownsRow lo e 1 v n xs ∧ ∀ k, v.ownBlock = some k → k < hi

/-- All things of a list are there, each in blocks that lie before those of the ones ahead of it, and from S on. -/
def Items (S : Nat) (w : World) : Nat → List Item → Prop
  | hi, [] => S ≤ hi
  | hi, it :: rest => ∃ lo, lo ≤ hi ∧ it.ok w lo hi ∧ Items S w lo rest

theorem own_turn {w w' : World} {b b' : Nat} {e : TypeId} {size n : Nat} {v : Value} {xs : List Value} (h : w.ownsRow b e size v n xs) (hk : ∀ k, v.ownBlock = some k → b' ≤ k ∧ w'.heap[k]? = w.heap[k]?) : w'.ownsRow b' e size v n xs := by
  obtain ⟨h1, h2⟩ := h
  refine ⟨h1, ?_⟩
  rcases h2 with h2 | ⟨g, cap, cur, hv, hg, hh, r⟩
  · exact .inl h2
  · obtain ⟨h3, h4⟩ := hk g (by rw [hv]; rfl)
    exact .inr ⟨g, cap, cur, hv, h3, h4.trans hh, r⟩

theorem item_turn {w w' : World} {lo hi : Nat} {it : Item} (h : it.ok w lo hi) (hk : ∀ k, lo ≤ k → k < hi → w'.heap[k]? = w.heap[k]?) : it.ok w' lo hi := by
  cases it with
  | box g t cs => exact ⟨(hk g h.2.1 h.2.2).trans h.1, h.2⟩
  | row e v n xs => exact ⟨own_turn h.1 fun k hv => ⟨(h.1.lt k hv).1, hk k (h.1.lt k hv).1 (h.2 k hv)⟩, h.2⟩

theorem item_wide {w : World} {lo hi hi' : Nat} {it : Item} (h : it.ok w lo hi) (hh : hi ≤ hi') : it.ok w lo hi' := by
  cases it with
  | box g t cs => exact ⟨h.1, h.2.1, Nat.lt_of_lt_of_le h.2.2 hh⟩
  | row e v n xs => exact ⟨h.1, fun k hv => Nat.lt_of_lt_of_le (h.2 k hv) hh⟩

theorem Items.turn {S : Nat} {w w' : World} : ∀ {hi : Nat} {its : List Item}, Items S w hi its → (∀ k, S ≤ k → k < hi → w'.heap[k]? = w.heap[k]?) → Items S w' hi its
  | hi, [], h, _ => h
  | hi, it :: rest, ⟨lo, h1, h2, h3⟩, hk => by
    have hS : S ≤ lo := by
      clear h2 hk h1
      induction rest generalizing lo with
      | nil => exact h3
      | cons i r ih =>
        obtain ⟨lo', h1, _, h3⟩ := h3
        exact Nat.le_trans (ih lo' h3) h1
    exact ⟨lo, h1, item_turn h2 fun k hk1 hk2 => hk k (Nat.le_trans hS hk1) hk2, Items.turn h3 fun k hk1 hk2 => hk k hk1 (Nat.lt_of_lt_of_le hk2 h1)⟩

theorem Items.wide {S : Nat} {w : World} {hi hi' : Nat} {its : List Item} (h : Items S w hi its) (hh : hi ≤ hi') : Items S w hi' its := by
  cases its with
  | nil => exact Nat.le_trans h hh
  | cons it rest =>
    obtain ⟨lo, h1, h2, h3⟩ := h
    exact ⟨lo, Nat.le_trans h1 hh, item_wide h2 hh, h3⟩

theorem Items.get {S : Nat} {w : World} : ∀ {hi : Nat} {its : List Item} (_ : Items S w hi its) (i : Nat) (it : Item), its[i]? = some it → ∃ lo hi', it.ok w lo hi' ∧ S ≤ lo ∧ hi' ≤ hi
  | hi, it :: rest, ⟨lo, h1, h2, h3⟩, 0, it', h => by
    have hS : S ≤ lo := by
      clear h2 h1 h
      induction rest generalizing lo with
      | nil => exact h3
      | cons i r ih =>
        obtain ⟨lo', h1, _, h3⟩ := h3
        exact Nat.le_trans (ih lo' h3) h1
    obtain rfl : it = it' := by simpa using h
    exact ⟨lo, hi, h2, hS, Nat.le_refl _⟩
  | hi, it :: rest, ⟨lo, h1, h2, h3⟩, i + 1, it', h => by
    obtain ⟨lo', hi', a, b, c⟩ := Items.get h3 i it' (by simpa using h)
    exact ⟨lo', hi', a, b, Nat.le_trans c h1⟩

/-- One row is written into; everything else stays. -/
theorem Items.mark {S : Nat} {w w' : World} {b : Nat} {e : TypeId} {v : Value} {n : Nat} {xs ys : List Value} (hg : w.grownBy w' v.ownBlock) (ho : w'.ownsRow b e 1 v n ys) : ∀ {hi : Nat} {its : List Item} (_ : Items S w hi its) (_ : hi ≤ w.heap.size) (i : Nat),
    its[i]? = some (.row e v n xs) → Items S w' hi (its.set i (.row e v n ys))
  | hi, it :: rest, ⟨lo, h1, h2, h3⟩, hw, 0, h => by
    obtain rfl : it = .row e v n xs := by simpa using h
    refine ⟨lo, h1, ⟨own_turn ho fun k hv => ⟨(h2.1.lt k hv).1, rfl⟩, h2.2⟩, h3.turn fun k _ hk2 => hg.block k (by omega) fun he => ?_⟩
    have := (h2.1.lt k he.symm).1
    omega
  | hi, it :: rest, ⟨lo, h1, h2, h3⟩, hw, i + 1, h => by
    have h' : rest[i]? = some (.row e v n xs) := by simpa using h
    obtain ⟨lo', hi', a, _, c⟩ := h3.get i _ h'
    refine ⟨lo, h1, item_turn h2 fun k hk1 hk2 => hg.block k (by omega) fun he => ?_, Items.mark hg ho h3 (by omega) i h'⟩
    have := a.2 k he.symm
    omega

/-- The scene: what was there at the start is untouched, and the walk's own things are there. -/
structure Scene (w0 w : World) (its : List Item) : Prop where
  below : Below w0.heap.size w0 w
  items : Items w0.heap.size w w.heap.size its

section
variable {w0 w w' : World} {its : List Item}
theorem Scene.start (w0 : World) : Scene w0 w0 [] := ⟨Below.refl _ _, Nat.le_refl _⟩
theorem Scene.step (h : Scene w0 w its) (hb : Below w.heap.size w w') : Scene w0 w' its :=
  ⟨below_then h.below hb, (h.items.turn fun k _ hk => hb.block k hk).wide hb.size⟩
theorem Scene.draw (h : Scene w0 w its) (n : Nat) : Scene w0 (w.drewN n) its := ⟨below_dN h.below n, h.items.turn fun _ _ _ => rfl⟩
theorem Scene.drew (h : Scene w0 w its) : Scene w0 w.drew its := ⟨h.below.drew, h.items.turn fun _ _ _ => rfl⟩
theorem Scene.row (h : Scene w0 w its) (hb : Below w.heap.size w w') {e : TypeId} {v : Value} {n : Nat} {xs : List Value} (ho : w'.ownsRow w.heap.size e 1 v n xs) : Scene w0 w' (.row e v n xs :: its) :=
  ⟨below_then h.below hb, w.heap.size, hb.size, ⟨ho, fun k hv => (ho.lt k hv).2⟩, h.items.turn fun k _ hk => hb.block k hk⟩
theorem Scene.box (h : Scene w0 w its) (t : TypeId) (cs : Array Value) : Scene w0 (w.alloc (.cells cs t)) (.box w.heap.size t cs :: its) :=
  ⟨h.below.alloc h.below.size _, w.heap.size, by simp, ⟨Box.made w t cs, Nat.le_refl _, by simp⟩, h.items.turn fun k _ hk => Below.heap_alloc w _ k hk⟩
theorem Scene.mark (h : Scene w0 w its) (i : Nat) {b : Nat} {e : TypeId} {v : Value} {n : Nat} {xs ys : List Value} (hi : its[i]? = some (.row e v n xs)) (hg : w.grownBy w' v.ownBlock) (ho : w'.ownsRow b e 1 v n ys) : Scene w0 w' (its.set i (.row e v n ys)) := by
  obtain ⟨lo, hi', a, hS, _⟩ := h.items.get i _ hi
  exact ⟨h.below.trans (grown_below a.1 hg hS h.below.size), (h.items.mark hg ho (Nat.le_refl _) i hi).wide hg.size⟩
theorem Scene.getBox (h : Scene w0 w its) (i : Nat) {g : Nat} {t : TypeId} {cs : Array Value} (hi : its[i]? = some (.box g t cs)) : Box w g t cs := by
  obtain ⟨lo, hi', a, _⟩ := h.items.get i _ hi
  exact a.1
theorem Scene.getRow (h : Scene w0 w its) (i : Nat) {e : TypeId} {v : Value} {n : Nat} {xs : List Value} (hi : its[i]? = some (.row e v n xs)) : w.ownsRow 0 e 1 v n xs := by
  obtain ⟨lo, hi', a, _⟩ := h.items.get i _ hi
  exact own_mono a.1 (Nat.zero_le _)
theorem Scene.lies (h : Scene w0 w its) (i : Nat) {α : Type} {f : α → Value} {e : TypeId} {A : Option Addr} {n c : Nat} {L : List α} (hi : its[i]? = some (.row e (.slice A n c) n (L.map f))) : Lies w f A L :=
  Lies.of_own (h.getRow i hi)
theorem Scene.liesOld (h : Scene w0 w its) {α : Type} {f : α → Value} {A : Option Addr} {L : List α} (hL : Lies w0 f A L) : Lies w f A L := hL.below h.below
/-- The two cells of a box, and that its block is there. -/
theorem Scene.two (h : Scene w0 w its) (i : Nat) {g : Nat} {t : TypeId} {a b : Value} (hi : its[i]? = some (.box g t #[a, b])) : w.cell? ⟨g, 0, none⟩ = some a ∧ w.cell? ⟨g, 1, none⟩ = some b ∧ g < w.heap.size := by
  have hx := h.getBox i hi
  exact ⟨hx.cell 0, hx.cell 1, hx.lt⟩
/-- Some things are forgotten. -/
theorem Scene.drop (h : Scene w0 w its) (n : Nat) : Scene w0 w (its.drop n) := by
  refine ⟨h.below, ?_⟩
  obtain ⟨hb, hi⟩ := h
  have key : ∀ (n : Nat) (hi : Nat) (its : List Item), Items w0.heap.size w hi its → hi ≤ w.heap.size → Items w0.heap.size w w.heap.size (its.drop n) := by
    intro n
    induction n with
    | zero => intro hi its h hh; exact h.wide hh
    | succ n ih =>
      intro hi its h hh
      cases its with
      | nil => exact Nat.le_trans h hh
      | cons it rest =>
        obtain ⟨lo, h1, _, h3⟩ := h
        exact ih lo rest h3 (Nat.le_trans h1 hh)
  exact key n _ _ hi (Nat.le_refl _)
end

end Go.Proofs.Ytoehgcakfblblaa

/- One row of the call's own appended to another, whatever their addresses; at a step of a region that draws its order. Nothing of the program stands here. -/
namespace Go.Proofs.Ytoehgcakfblblaa
open Go.RowKit

section
variable {P : Program} (w : World)

theorem run_append_rows (base b2 : Nat) (t ty e : TypeId) (i : TypeInfo) (z : Value) (bytes : Nat) (ht : P.underlying t = some (.slice e)) (hi : P.info? e = some i) (hz : i.zero = some z)
    (hsize : i.size = 1) (hby : i.bytes = bytes) (hzs : z.cells.size = 1) (v : Value) (n : Nat) (xs : List Value) (hown : w.ownsRow base e 1 v n xs) (u : Value) (m : Nat) (ys : List Value) (h2 : w.ownsRow b2 e 1 u m ys)
    (h1 : ∀ y ∈ ys, y.oneCell' = true) (h63 : n + m ≤ maxLen) (hbytes : (n + m) * bytes ≤ 140737488355328) (hbase : base ≤ w.heap.size) :
    ∃ v' w', (Builtin.append_ #[t, t] ty #[v, u]).run P w = .ok v' w' ∧ w'.ownsRow base e 1 v' (n + m) (xs ++ ys) ∧ w.grownBy w' v.ownBlock ∧ (v'.ownBlock = v.ownBlock ∨ v'.ownBlock = some w.heap.size) := by
  have hl := h2.1
  rcases h2.2 with ⟨rfl, rfl⟩ | ⟨g, cap, cur, rfl, _⟩
  · have hy : ys = [] := List.eq_nil_of_length_eq_zero (by simpa using hl)
    subst hy
    exact ⟨v, w, run_append_owned_none (P := P) w base t ty e i 1 ht hi v n xs hown, by simpa using hown, World.grownBy.refl w _, .inl rfl⟩
  · obtain ⟨v', w', hr, a, b, _, c⟩ := run_append_own_at (P := P) w base t ty e i z 1 bytes ht hi hz hsize hby hzs (by decide) v n xs hown ⟨g, 0, none⟩ m cap ys hl (h2.cells (g := g) rfl) h1 h63 hbytes hbase
    exact ⟨v', w', hr, a, b, c⟩

theorem step_append_rows {ops : Array Oper} {o : Oper} {a : Act} {K : Act → World → Prop} {Q : Exit → Act → World → Prop} {E : Prop} (hgd : o.guard = none) (s x : Operand) (t : TypeId)
    (ho : o.op = .call { callee := .builtin .append, args := #[s, x], argTypes := #[t, t] })
    (base b2 : Nat) (e : TypeId) (i : TypeInfo) (z : Value) (bytes : Nat) (ht : P.underlying t = some (.slice e)) (hi : P.info? e = some i) (hz : i.zero = some z) (hsize : i.size = 1) (hby : i.bytes = bytes) (hzs : z.cells.size = 1)
    (v : Value) (n : Nat) (xs : List Value) (hs : a.eval s = v) (hown : w.ownsRow base e 1 v n xs) (u : Value) (m : Nat) (ys : List Value) (hx : a.eval x = u) (h2 : w.ownsRow b2 e 1 u m ys)
    (h1 : ∀ y ∈ ys, y.oneCell' = true) (h63 : n + m ≤ maxLen) (hbytes : (n + m) * bytes ≤ 140737488355328) (hbase : base ≤ w.heap.size)
    (h : ∀ v' w', w'.ownsRow base e 1 v' (n + m) (xs ++ ys) → w.grownBy w' v.ownBlock → (v'.ownBlock = v.ownBlock ∨ v'.ownBlock = some w.heap.size) → K (a.put o.dst v') w') :
    if Region.wanted o (yielded ops a.tmps) = true then Oper.wp P o a w K Q else E := by
  obtain ⟨v', w', hrun, a1, a2, a3⟩ := run_append_rows (P := P) w base b2 t o.type e i z bytes ht hi hz hsize hby hzs v n xs hown u m ys h2 h1 h63 hbytes hbase
  rw [if_pos (by simp [Region.wanted, hgd])]
  unfold Oper.wp execOp
  simp only [ho, resolve, invoke, builtin, Sem.run_bind, Sem.run_pure, Result.andThen_ok, List.map_toArray, List.map_cons, List.map_nil, hs, hx, hrun]
  exact h v' w' a1 a2 a3
end

end Go.Proofs.Ytoehgcakfblblaa
