import Derived.Test.YtlgnndfhpnbhmaaDraw1
/- The specification's raw and wide draws. -/
namespace Go.Proofs.Ytlgnndfhpnbhmaa
open Go.RowKit
set_option maxRecDepth 100000

/-- Some number was drawn, by at most k picks. -/
def DrewI (w : World) (g : Nat) (A : Option Addr) (c : Nat) (D : List Nat) (K : Nat) (e : Ending) (w' : World) : Prop :=
  ∃ r : Int, e = .returned (.int .i64 r) ∧ (-9223372036854775808 ≤ r ∧ r ≤ 9223372036854775807) ∧ Cur w' g A c D K ∧ w.grownBy w' (some g)

/-- A table of numbers that was just made. -/
theorem table_at {w : World} {b : Nat} {t : TypeId} {L : List Int} (h : Box w b t (L.map I).toArray) {i : Nat} (hi : i < L.length) : ∃ v, v ∈ L ∧ w.cell? ⟨b, i, none⟩ = some (.int .i64 v) := by
  refine ⟨L[i], List.getElem_mem hi, ?_⟩
  rw [h.cell, List.getElem?_toArray, List.getElem?_map, List.getElem?_eq_getElem hi]
  rfl
theorem box_kept {w w' : World} {g b : Nat} {t : TypeId} {cs : Array Value} (h : Box w b t cs) (hg : w.grownBy w' (some g)) (hne : b ≠ g) : Box w' b t cs :=
  h.grown hg fun e => hne (Option.some.inj e).symm
theorem cur_alloc {w : World} {g : Nat} {A : Option Addr} {c : Nat} {D : List Nat} {K : Nat} (h : Cur w g A c D K) (o : Obj) : Cur (w.alloc o) g A c D K := h.below ((Below.refl _ _).alloc (Nat.le_refl _) o)

/-- A number below n was drawn, by at most three picks. -/
def DrewW (w : World) (g : Nat) (A : Option Addr) (c : Nat) (D : List Nat) (K n : Nat) (e : Ending) (w' : World) : Prop :=
  ∃ r : Nat, e = .returned (.int .i64 r) ∧ r < n ∧ r < 16777216 ∧ Cur w' g A c D K ∧ w.grownBy w' (some g)

end Go.Proofs.Ytlgnndfhpnbhmaa

/- The cursor opened, the draw of VarOf, and the laws' own pick. -/
namespace Go.Proofs.Ytlgnndfhpnbhmaa
open Go.RowKit
set_option maxRecDepth 100000

set_option maxHeartbeats 400000 in
theorem open_any (A : Option Addr) (c : Nat) (D : List Nat) (w : World) (hD : Lies w B8 A D) (hw : ∀ x ∈ D, x < 2 ^ 8) (hl : D.length ≤ 1048576) :
    Calls Try.prog 40 #[.slice A D.length c] w fun e w' => e = .returned (.pointer (some ⟨w.heap.size, 0, none⟩)) ∧ Cur w' w.heap.size A c D 0 ∧ Below w.heap.size w w' := by
  obtain ⟨q, hq⟩ : ∃ q, 89 + D.length % 1000 = q := ⟨_, rfl⟩
  have hqi : 89 + (D.length : Int) % 1000 = (q : Int) := by omega
  have hq5 : q < 65521 := by omega
  have HD := Lib.hid hD
  have HW := Lib.hid hw
  clear hD hw hq
  go_enter Try.func40, Try.ntmps40
  go_wp2
  go_ret
  have hb : Below w.heap.size w (w.alloc (.cells #[.slice A D.length c, .int .i64 0, .int .i64 q] 55)) := (Below.refl _ _).alloc (Nat.le_refl _) _
  refine ⟨rfl, ⟨HD.out.below hb, ?_, HW.out, hl, 0, q, Nat.le_refl _, hq5, Box.made _ _ _⟩, hb⟩
  intro b o hl0 hA e
  obtain ⟨b', o', _, hA', hb', _⟩ := HD.out.at_ hl0
  rw [hA] at hA'
  injection hA' with hA'
  injection hA' with e1 e2
  omega

/-- Some number that VarOf is tried at. -/
def DrewV (w : World) (e : Ending) (w' : World) : Prop := ∃ r : Int, e = .returned (.int .i64 r) ∧ (-9223372036854775808 ≤ r ∧ r ≤ 9223372036854775807) ∧ Below w.heap.size w w'

theorem grown_below2 {w w1 w2 : World} {g : Nat} (hb : Below w.heap.size w w1) (hg : w1.grownBy w2 (some g)) (hge : w.heap.size ≤ g) : Below w.heap.size w w2 :=
  ⟨hg.os.trans hb.os, hg.tape.trans hb.tape, hg.output.trans hb.output, Nat.le_trans hb.size hg.size, fun k hk => (hg.block k (Nat.lt_of_lt_of_le hk hb.size) (fun e => by have := Option.some.inj e; omega)).trans (hb.block k hk)⟩

set_option maxHeartbeats 400000 in
theorem big_any (A : Option Addr) (n c : Nat) (w : World) :
    Calls Try.prog 13 #[.slice A n c] w fun e w' => e = .returned (.bool (decide (1048576 < n))) ∧ w = w' := by
  go_enter Try.func13, Try.ntmps13
  go_wp2
  go_ret
  exact ⟨ret_bool (by rw [Bool.eq_iff_iff]; simp; omega), rfl⟩

/-- What the laws' pick returns. -/
def LPick (n : Int) (r : Nat) : Prop := (2 ≤ n → (r : Int) < n) ∧ (n < 2 → r = 0)

end Go.Proofs.Ytlgnndfhpnbhmaa
