import Derived.Test.YtlbnngolcoefdaaDoorMem3
import Derived.Deep.RegionWith
import Derived.Deep.RegionHeld3
/- A scene: what a law's walk holds of its own memory, newest first, each thing in blocks of its own; how it outlives each step. Nothing of the program stands here. -/
namespace Go.Proofs.YtlbnngolcoefdaaDoor
open Go.RowKit

inductive Item where
  | box (g : Nat) (t : TypeId) (cs : Array Value)
  | row (e : TypeId) (v : Value) (n : Nat) (xs : List Value)

/-- The thing is there, in blocks from lo on and before hi. -/
def Item.ok (w : World) (lo hi : Nat) : Item → Prop
  | .box g t cs => Box w g t cs ∧ lo ≤ g ∧ g < hi
  | .row e v n xs => w.ownsRow lo e 1 v n xs ∧ ∀ k, v.ownBlock = some k → k < hi

/-- All things of a list are there, each in blocks that lie before those of the ones ahead of it, and from S on. -/
def Items (S : Nat) (w : World) : Nat → List Item → Prop
  | hi, [] => S ≤ hi
  | hi, it :: rest => ∃ lo, lo ≤ hi ∧ it.ok w lo hi ∧ Items S w lo rest

theorem own_turn {w w' : World} {b b' : Nat} {e : TypeId} {size n : Nat} {v : Value} {xs : List Value} (h : w.ownsRow b e size v n xs) (hk : ∀ k, v.ownBlock = some k → b' ≤ k ∧ w'.heap[k]? = w.heap[k]?) : w'.ownsRow b' e size v n xs := by
  obtain ⟨h1, h2⟩ := h
  refine ⟨h1, ?_⟩
  rcases h2 with h2 | ⟨g, cap, cur, hv, hg, hh, r⟩
  · exact .inl h2
  · obtain ⟨h3, h4⟩ := hk g (by rw [hv]; rfl)
    exact .inr ⟨g, cap, cur, hv, h3, h4.trans hh, r⟩

theorem item_turn {w w' : World} {lo hi : Nat} {it : Item} (h : it.ok w lo hi) (hk : ∀ k, lo ≤ k → k < hi → w'.heap[k]? = w.heap[k]?) : it.ok w' lo hi := by
  cases it with
  | box g t cs => exact ⟨(hk g h.2.1 h.2.2).trans h.1, h.2⟩
  | row e v n xs => exact ⟨own_turn h.1 fun k hv => ⟨(h.1.lt k hv).1, hk k (h.1.lt k hv).1 (h.2 k hv)⟩, h.2⟩

theorem item_wide {w : World} {lo hi hi' : Nat} {it : Item} (h : it.ok w lo hi) (hh : hi ≤ hi') : it.ok w lo hi' := by
  cases it with
  | box g t cs => exact ⟨h.1, h.2.1, Nat.lt_of_lt_of_le h.2.2 hh⟩
  | row e v n xs => exact ⟨h.1, fun k hv => Nat.lt_of_lt_of_le (h.2 k hv) hh⟩

theorem Items.turn {S : Nat} {w w' : World} : ∀ {hi : Nat} {its : List Item}, Items S w hi its → (∀ k, S ≤ k → k < hi → w'.heap[k]? = w.heap[k]?) → Items S w' hi its
  | hi, [], h, _ => h
  | hi, it :: rest, ⟨lo, h1, h2, h3⟩, hk => by
    have hS : S ≤ lo := by
      clear h2 hk h1
      induction rest generalizing lo with
      | nil => exact h3
      | cons i r ih =>
        obtain ⟨lo', h1, _, h3⟩ := h3
        exact Nat.le_trans (ih lo' h3) h1
    exact ⟨lo, h1, item_turn h2 fun k hk1 hk2 => hk k (Nat.le_trans hS hk1) hk2, Items.turn h3 fun k hk1 hk2 => hk k hk1 (Nat.lt_of_lt_of_le hk2 h1)⟩

theorem Items.wide {S : Nat} {w : World} {hi hi' : Nat} {its : List Item} (h : Items S w hi its) (hh : hi ≤ hi') : Items S w hi' its := by
  cases its with
  | nil => exact Nat.le_trans h hh
  | cons it rest =>
    obtain ⟨lo, h1, h2, h3⟩ := h
    exact ⟨lo, Nat.le_trans h1 hh, item_wide h2 hh, h3⟩

theorem Items.get {S : Nat} {w : World} : ∀ {hi : Nat} {its : List Item} (_ : Items S w hi its) (i : Nat) (it : Item), its[i]? = some it → ∃ lo hi', it.ok w lo hi' ∧ S ≤ lo ∧ hi' ≤ hi
  | hi, it :: rest, ⟨lo, h1, h2, h3⟩, 0, it', h => by
    have hS : S ≤ lo := by
      clear h2 h1 h
      induction rest generalizing lo with
      | nil => exact h3
      | cons i r ih =>
        obtain ⟨lo', h1, _, h3⟩ := h3
        exact Nat.le_trans (ih lo' h3) h1
    obtain rfl : it = it' := by simpa using h
    exact ⟨lo, hi, h2, hS, Nat.le_refl _⟩
  | hi, it :: rest, ⟨lo, h1, h2, h3⟩, i + 1, it', h => by
    obtain ⟨lo', hi', a, b, c⟩ := Items.get h3 i it' (by simpa using h)
    exact ⟨lo', hi', a, b, Nat.le_trans c h1⟩

/-- One row is written into; everything else stays. -/
theorem Items.mark {S : Nat} {w w' : World} {b : Nat} {e : TypeId} {v : Value} {n : Nat} {xs ys : List Value} (hg : w.grownBy w' v.ownBlock) (ho : w'.ownsRow b e 1 v n ys) : ∀ {hi : Nat} {its : List Item} (_ : Items S w hi its) (_ : hi ≤ w.heap.size) (i : Nat),
    its[i]? = some (.row e v n xs) → Items S w' hi (its.set i (.row e v n ys))
  | hi, it :: rest, ⟨lo, h1, h2, h3⟩, hw, 0, h => by
    obtain rfl : it = .row e v n xs := by simpa using h
    refine ⟨lo, h1, ⟨own_turn ho fun k hv => ⟨(h2.1.lt k hv).1, rfl⟩, h2.2⟩, h3.turn fun k _ hk2 => hg.block k (by omega) fun he => ?_⟩
    have := (h2.1.lt k he.symm).1
    omega
  | hi, it :: rest, ⟨lo, h1, h2, h3⟩, hw, i + 1, h => by
    have h' : rest[i]? = some (.row e v n xs) := by simpa using h
    obtain ⟨lo', hi', a, _, c⟩ := h3.get i _ h'
    refine ⟨lo, h1, item_turn h2 fun k hk1 hk2 => hg.block k (by omega) fun he => ?_, Items.mark hg ho h3 (by omega) i h'⟩
    have := a.2 k he.symm
    omega

/-- The scene: what was there at the start is untouched, and the walk's own things are there. -/
structure Scene (w0 w : World) (its : List Item) : Prop where
  below : Below w0.heap.size w0 w
  items : Items w0.heap.size w w.heap.size its

section
variable {w0 w w' : World} {its : List Item}
theorem Scene.start (w0 : World) : Scene w0 w0 [] := ⟨Below.refl _ _, Nat.le_refl _⟩
theorem Scene.step (h : Scene w0 w its) (hb : Below w.heap.size w w') : Scene w0 w' its :=
  ⟨below_then h.below hb, (h.items.turn fun k _ hk => hb.block k hk).wide hb.size⟩
theorem Scene.draw (h : Scene w0 w its) (n : Nat) : Scene w0 (w.drewN n) its := ⟨below_dN h.below n, h.items.turn fun _ _ _ => rfl⟩
theorem Scene.drew (h : Scene w0 w its) : Scene w0 w.drew its := ⟨h.below.drew, h.items.turn fun _ _ _ => rfl⟩
theorem Scene.row (h : Scene w0 w its) (hb : Below w.heap.size w w') {e : TypeId} {v : Value} {n : Nat} {xs : List Value} (ho : w'.ownsRow w.heap.size e 1 v n xs) : Scene w0 w' (.row e v n xs :: its) :=
  ⟨below_then h.below hb, w.heap.size, hb.size, ⟨ho, fun k hv => (ho.lt k hv).2⟩, h.items.turn fun k _ hk => hb.block k hk⟩
theorem Scene.box (h : Scene w0 w its) (t : TypeId) (cs : Array Value) : Scene w0 (w.alloc (.cells cs t)) (.box w.heap.size t cs :: its) :=
  ⟨h.below.alloc h.below.size _, w.heap.size, by simp, ⟨Box.made w t cs, Nat.le_refl _, by simp⟩, h.items.turn fun k _ hk => Below.heap_alloc w _ k hk⟩
theorem Scene.mark (h : Scene w0 w its) (i : Nat) {b : Nat} {e : TypeId} {v : Value} {n : Nat} {xs ys : List Value} (hi : its[i]? = some (.row e v n xs)) (hg : w.grownBy w' v.ownBlock) (ho : w'.ownsRow b e 1 v n ys) : Scene w0 w' (its.set i (.row e v n ys)) := by
  obtain ⟨lo, hi', a, hS, _⟩ := h.items.get i _ hi
  exact ⟨h.below.trans (grown_below a.1 hg hS h.below.size), (h.items.mark hg ho (Nat.le_refl _) i hi).wide hg.size⟩
theorem Scene.getBox (h : Scene w0 w its) (i : Nat) {g : Nat} {t : TypeId} {cs : Array Value} (hi : its[i]? = some (.box g t cs)) : Box w g t cs := by
  obtain ⟨lo, hi', a, _⟩ := h.items.get i _ hi
  exact a.1
theorem Scene.getRow (h : Scene w0 w its) (i : Nat) {e : TypeId} {v : Value} {n : Nat} {xs : List Value} (hi : its[i]? = some (.row e v n xs)) : w.ownsRow 0 e 1 v n xs := by
  obtain ⟨lo, hi', a, _⟩ := h.items.get i _ hi
  exact own_mono a.1 (Nat.zero_le _)
theorem Scene.lies (h : Scene w0 w its) (i : Nat) {α : Type} {f : α → Value} {e : TypeId} {A : Option Addr} {n c : Nat} {L : List α} (hi : its[i]? = some (.row e (.slice A n c) n (L.map f))) : Lies w f A L :=
  Lies.of_own (h.getRow i hi)
theorem Scene.liesOld (h : Scene w0 w its) {α : Type} {f : α → Value} {A : Option Addr} {L : List α} (hL : Lies w0 f A L) : Lies w f A L := hL.below h.below
/-- The two cells of a box, and that its block is there. -/
theorem Scene.two (h : Scene w0 w its) (i : Nat) {g : Nat} {t : TypeId} {a b : Value} (hi : its[i]? = some (.box g t #[a, b])) : w.cell? ⟨g, 0, none⟩ = some a ∧ w.cell? ⟨g, 1, none⟩ = some b ∧ g < w.heap.size := by
  have hx := h.getBox i hi
  exact ⟨hx.cell 0, hx.cell 1, hx.lt⟩
/-- Some things are forgotten. -/
theorem Scene.drop (h : Scene w0 w its) (n : Nat) : Scene w0 w (its.drop n) := by
  refine ⟨h.below, ?_⟩
  obtain ⟨hb, hi⟩ := h
  have key : ∀ (n : Nat) (hi : Nat) (its : List Item), Items w0.heap.size w hi its → hi ≤ w.heap.size → Items w0.heap.size w w.heap.size (its.drop n) := by
    intro n
    induction n with
    | zero => intro hi its h hh; exact h.wide hh
    | succ n ih =>
      intro hi its h hh
      cases its with
      | nil => exact Nat.le_trans h hh
      | cons it rest =>
        obtain ⟨lo, h1, _, h3⟩ := h
        exact ih lo rest h3 (Nat.le_trans h1 hh)
  exact key n _ _ hi (Nat.le_refl _)
end

end Go.Proofs.YtlbnngolcoefdaaDoor

/- A scene's boxes of four cells. Nothing of the program stands here. -/
namespace Go.Proofs.YtlbnngolcoefdaaDoor
open Go.RowKit

theorem Scene.four {w0 w : World} {its : List Item} (h : Scene w0 w its) (i : Nat) {g : Nat} {t : TypeId} {a b c d : Value} (hi : its[i]? = some (.box g t #[a, b, c, d])) :
    w.cell? ⟨g, 0, none⟩ = some a ∧ w.cell? ⟨g, 1, none⟩ = some b ∧ w.cell? ⟨g, 2, none⟩ = some c ∧ w.cell? ⟨g, 3, none⟩ = some d ∧ g < w.heap.size := by
  have hx := h.getBox i hi
  exact ⟨hx.cell 0, hx.cell 1, hx.cell 2, hx.cell 3, hx.lt⟩

end Go.Proofs.YtlbnngolcoefdaaDoor

/- A scene in which one row grows: what is newer is forgotten, what is older stays. -/
namespace Go.Proofs.YtlbnngolcoefdaaDoor
open Go.RowKit

theorem Items.low {S : Nat} {w : World} : ∀ {hi : Nat} {its : List Item}, Items S w hi its → S ≤ hi
  | _, [], h => h
  | _, _ :: _, ⟨_, h1, _, h3⟩ => Nat.le_trans (Items.low h3) h1

theorem Items.split {S : Nat} {w : World} : ∀ {hi : Nat} {its : List Item} (_ : Items S w hi its) (i : Nat) (it : Item), its[i]? = some it → ∃ lo hi', it.ok w lo hi' ∧ lo ≤ hi ∧ Items S w lo (its.drop (i + 1))
  | hi, it :: rest, ⟨lo, h1, h2, h3⟩, 0, it', h => by
    obtain rfl : it = it' := by simpa using h
    exact ⟨lo, hi, h2, h1, h3⟩
  | hi, it :: rest, ⟨lo, h1, h2, h3⟩, i + 1, it', h => by
    obtain ⟨lo', hi', a, b, c⟩ := Items.split h3 i it' (by simpa using h)
    exact ⟨lo', hi', a, Nat.le_trans b h1, c⟩

section
variable {w0 w w' : World} {its : List Item}
theorem Scene.pick (h : Scene w0 w its) (i : Nat) {e : TypeId} {v : Value} {n : Nat} {xs : List Value} (hi : its[i]? = some (.row e v n xs)) :
    ∃ lo, lo ≤ w.heap.size ∧ w.ownsRow lo e 1 v n xs ∧ Items w0.heap.size w lo (its.drop (i + 1)) := by
  obtain ⟨lo, hi', a, b, c⟩ := h.items.split i _ hi
  exact ⟨lo, b, a.1, c⟩
theorem Scene.grow (hb : Below w0.heap.size w0 w) {lo : Nat} (hit : Items w0.heap.size w lo its) (hle : lo ≤ w.heap.size) {e : TypeId} {v : Value} {n : Nat} {xs : List Value} (hown : w.ownsRow lo e 1 v n xs) (hg : w.grownBy w' v.ownBlock)
    {v' : Value} {n' : Nat} {zs : List Value} (ho : w'.ownsRow lo e 1 v' n' zs) : Scene w0 w' (.row e v' n' zs :: its) := by
  have hS := hit.low
  refine ⟨hb.trans (grown_below hown hg hS hb.size), lo, Nat.le_trans hle hg.size, ⟨ho, fun k hk => (ho.lt k hk).2⟩, hit.turn fun k _ hk => hg.block k (by omega) fun he => ?_⟩
  have := (hown.lt k he.symm).1
  omega
end

end Go.Proofs.YtlbnngolcoefdaaDoor

/- A stage: like a scene, but its things may stand in any order. -/
namespace Go.Proofs.YtlbnngolcoefdaaDoor
open Go.RowKit

def Item.has (k : Nat) : Item → Prop
  | .box g _ _ => g = k
  | .row _ v _ _ => v.ownBlock = some k
def Item.there (S : Nat) (w : World) : Item → Prop
  | .box g t cs => S ≤ g ∧ Box w g t cs
  | .row e v n xs => w.ownsRow S e 1 v n xs

theorem Item.lt {S : Nat} {w : World} {it : Item} (h : it.there S w) {k : Nat} (hk : it.has k) : S ≤ k ∧ k < w.heap.size := by
  cases it with
  | box g t cs => obtain rfl : g = k := hk; exact ⟨h.1, h.2.lt⟩
  | row e v n xs => exact World.ownsRow.lt h k hk
theorem Item.turn {S : Nat} {w w' : World} {it : Item} (h : it.there S w) (hk : ∀ k, it.has k → w'.heap[k]? = w.heap[k]?) : it.there S w' := by
  cases it with
  | box g t cs => exact ⟨h.1, (hk g rfl).trans h.2⟩
  | row e v n xs => exact own_turn h fun k hv => ⟨(World.ownsRow.lt h k hv).1, hk k hv⟩

/-- What was there at the start is untouched, and the walk's own things are there, each in blocks of its own. -/
structure Stage (w0 w : World) (its : List Item) : Prop where
  below : Below w0.heap.size w0 w
  there : ∀ (i : Nat) (a : Item), its[i]? = some a → a.there w0.heap.size w
  apart : ∀ (i j : Nat) (a b : Item), i ≠ j → its[i]? = some a → its[j]? = some b → ∀ k, a.has k → ¬ b.has k

section
variable {w0 w w' : World} {its : List Item}
theorem Stage.start (w0 : World) : Stage w0 w0 [] := ⟨Below.refl _ _, fun i a h => by simp at h, fun i j a b _ h => by simp at h⟩
theorem Stage.step (h : Stage w0 w its) (hb : Below w.heap.size w w') : Stage w0 w' its :=
  ⟨below_then h.below hb, fun i a hi => Item.turn (h.there i a hi) fun k hk => hb.block k (Item.lt (h.there i a hi) hk).2, h.apart⟩
theorem Stage.draw (h : Stage w0 w its) (n : Nat) : Stage w0 (w.drewN n) its := ⟨below_dN h.below n, fun i a hi => Item.turn (h.there i a hi) fun _ _ => rfl, h.apart⟩
theorem Stage.drew (h : Stage w0 w its) : Stage w0 w.drew its := ⟨h.below.drew, fun i a hi => Item.turn (h.there i a hi) fun _ _ => rfl, h.apart⟩
theorem Stage.new (h : Stage w0 w its) {it : Item} (hb : Below w.heap.size w w') (ht : it.there w0.heap.size w') (hn : ∀ k, it.has k → w.heap.size ≤ k) : Stage w0 w' (it :: its) := by
  have h2 := h.step hb
  refine ⟨h2.below, fun i a hi => ?_, fun i j a b hij hi hj k ha hbk => ?_⟩
  · cases i with
    | zero => obtain rfl : it = a := by simpa using hi
              exact ht
    | succ i => exact h2.there i a (by simpa using hi)
  · cases i with
    | zero =>
      cases j with
      | zero => exact hij rfl
      | succ j =>
        obtain rfl : it = a := by simpa using hi
        have := hn k ha
        have := (Item.lt (h.there j b (by simpa using hj)) hbk).2
        omega
    | succ i =>
      cases j with
      | zero =>
        obtain rfl : it = b := by simpa using hj
        have := hn k hbk
        have := (Item.lt (h.there i a (by simpa using hi)) ha).2
        omega
      | succ j => exact h.apart i j a b (by omega) (by simpa using hi) (by simpa using hj) k ha hbk
theorem Stage.row (h : Stage w0 w its) (hb : Below w.heap.size w w') {e : TypeId} {v : Value} {n : Nat} {xs : List Value} (ho : w'.ownsRow w.heap.size e 1 v n xs) : Stage w0 w' (.row e v n xs :: its) :=
  h.new hb (show w'.ownsRow _ e 1 v n xs from own_mono ho h.below.size) fun k hk => (ho.lt k hk).1
theorem Stage.box (h : Stage w0 w its) (t : TypeId) (cs : Array Value) : Stage w0 (w.alloc (.cells cs t)) (.box w.heap.size t cs :: its) :=
  h.new ((Below.refl _ _).alloc (Nat.le_refl _) _) ⟨h.below.size, Box.made w t cs⟩ fun k hk => by
    obtain rfl : w.heap.size = k := hk
    exact Nat.le_refl _
/-- One thing is changed, in its own blocks; everything else stays. -/
theorem Stage.change (h : Stage w0 w its) (i : Nat) {a a' : Item} (hi : its[i]? = some a) (hb : Below w0.heap.size w0 w') (ht : a'.there w0.heap.size w') (hh : ∀ k, a'.has k → a.has k)
    (hk : ∀ k, k < w.heap.size → ¬ a.has k → w'.heap[k]? = w.heap[k]?) : Stage w0 w' (its.set i a') := by
  have hl := (List.getElem?_eq_some_iff.1 hi).1
  refine ⟨hb, fun j b hj => ?_, fun j l b c hjl hj hl' k hbk hck => ?_⟩
  · rw [List.getElem?_set] at hj
    by_cases hij : i = j
    · rw [if_pos hij, if_pos hl] at hj
      obtain rfl : a' = b := by simpa using hj
      exact ht
    · rw [if_neg hij] at hj
      exact Item.turn (h.there j b hj) fun k hbk => hk k (Item.lt (h.there j b hj) hbk).2 fun hak => h.apart i j a b hij hi hj k hak hbk
  · rw [List.getElem?_set] at hj hl'
    by_cases hij : i = j
    · rw [if_pos hij, if_pos hl] at hj
      obtain rfl : a' = b := by simpa using hj
      rw [if_neg (by omega)] at hl'
      exact h.apart i l a c (by omega) hi hl' k (hh k hbk) hck
    · rw [if_neg hij] at hj
      by_cases hil : i = l
      · rw [if_pos hil, if_pos hl] at hl'
        obtain rfl : a' = c := by simpa using hl'
        exact h.apart i j a b hij hi hj k (hh k hck) hbk
      · rw [if_neg hil] at hl'
        exact h.apart j l b c hjl hj hl' k hbk hck
theorem Stage.mark (h : Stage w0 w its) (i : Nat) {b : Nat} {e : TypeId} {v : Value} {n : Nat} {xs ys : List Value} (hi : its[i]? = some (.row e v n xs)) (hg : w.grownBy w' v.ownBlock) (ho : w'.ownsRow b e 1 v n ys) : Stage w0 w' (its.set i (.row e v n ys)) := by
  have ht : w.ownsRow w0.heap.size e 1 v n xs := h.there i _ hi
  exact h.change i hi (h.below.trans (grown_below ht hg (Nat.le_refl _) h.below.size)) (show w'.ownsRow _ e 1 v n ys from own_turn ho fun k hv => ⟨(ht.lt k hv).1, rfl⟩) (fun k hk => hk)
    fun k hk hn => hg.block k hk fun he => hn he.symm
theorem Stage.put2 (h : Stage w0 w its) (i : Nat) {g : Nat} {t : TypeId} {a b : Value} (hi : its[i]? = some (.box g t #[a, b])) (a' b' : Value) :
    Stage w0 ((w.setCell ⟨g, 0, none⟩ a').setCell ⟨g, 1, none⟩ b') (its.set i (.box g t #[a', b'])) := by
  obtain ⟨hS, hx⟩ := h.there i _ hi
  refine h.change i hi ((h.below.setCell (by exact hS) _).setCell (by exact hS) _) ⟨hS, ?_⟩ (fun k hk => hk) fun k hk hn => ?_
  · exact (hx.put 0 a').put 1 b'
  · have hne : k ≠ g := fun e => hn e.symm
    exact (Below.heap_setCell _ ⟨g, 1, none⟩ _ k hne).trans (Below.heap_setCell _ ⟨g, 0, none⟩ _ k hne)
theorem Stage.getBox (h : Stage w0 w its) (i : Nat) {g : Nat} {t : TypeId} {cs : Array Value} (hi : its[i]? = some (.box g t cs)) : Box w g t cs := (h.there i _ hi).2
theorem Stage.getRow (h : Stage w0 w its) (i : Nat) {e : TypeId} {v : Value} {n : Nat} {xs : List Value} (hi : its[i]? = some (.row e v n xs)) : w.ownsRow 0 e 1 v n xs :=
  own_mono (show w.ownsRow _ e 1 v n xs from h.there i _ hi) (Nat.zero_le _)
theorem Stage.lies (h : Stage w0 w its) (i : Nat) {α : Type} {f : α → Value} {e : TypeId} {A : Option Addr} {n c : Nat} {L : List α} (hi : its[i]? = some (.row e (.slice A n c) n (L.map f))) : Lies w f A L :=
  Lies.of_own (h.getRow i hi)
theorem Stage.liesOld (h : Stage w0 w its) {α : Type} {f : α → Value} {A : Option Addr} {L : List α} (hL : Lies w0 f A L) : Lies w f A L := hL.below h.below
theorem Stage.two (h : Stage w0 w its) (i : Nat) {g : Nat} {t : TypeId} {a b : Value} (hi : its[i]? = some (.box g t #[a, b])) : w.cell? ⟨g, 0, none⟩ = some a ∧ w.cell? ⟨g, 1, none⟩ = some b ∧ g < w.heap.size := by
  have hx := h.getBox i hi
  exact ⟨hx.cell 0, hx.cell 1, hx.lt⟩
/-- Some of the things, in another order. -/
theorem Stage.pick (h : Stage w0 w its) (σ : List Nat) (hn : σ.Nodup) {its' : List Item} (he : σ.map (fun i => its[i]?) = its'.map some) : Stage w0 w its' := by
  have key : ∀ (i : Nat) (a : Item), its'[i]? = some a → ∃ j, σ[i]? = some j ∧ its[j]? = some a := by
    intro i a hi
    have h1 : (its'.map some)[i]? = some (some a) := by rw [List.getElem?_map, hi]; rfl
    rw [← he, List.getElem?_map, Option.map_eq_some_iff] at h1
    exact h1
  refine ⟨h.below, fun i a hi => ?_, fun i j a b hij hi hj => ?_⟩
  · obtain ⟨j, _, hj⟩ := key i a hi
    exact h.there j a hj
  · obtain ⟨i', h1, hi'⟩ := key i a hi
    obtain ⟨j', h2, hj'⟩ := key j b hj
    refine h.apart i' j' a b (fun e => hij ?_) hi' hj'
    subst e
    exact (List.getElem?_inj (List.getElem?_eq_some_iff.1 h1).1 hn).1 (h1.trans h2.symm)
end

/-- A region whose orders are many: what is to be shown behind it is shown once. -/
theorem cut_at {Q : Prop} {w0 w : World} {its : List Item} (_sc : Stage w0 w its) (N : Int) (Ws : List Nat) {R : Nat → Option Addr → Nat → Option Addr → Nat → Option Addr → Nat → World → Prop}
    (main : (∀ g A c A1 c1 A2 c2 W, Stage w0 W (.box g 29 #[.int .i64 N, .slice A Ws.length c] :: .row 113 (.slice A Ws.length c) Ws.length (Ws.map U) :: its) → R g A c A1 c1 A2 c2 W) → Q)
    (rest : ∀ g A c A1 c1 A2 c2 W, Stage w0 W (.box g 29 #[.int .i64 N, .slice A Ws.length c] :: .row 113 (.slice A Ws.length c) Ws.length (Ws.map U) :: its) → R g A c A1 c1 A2 c2 W) : Q := main rest

end Go.Proofs.YtlbnngolcoefdaaDoor
