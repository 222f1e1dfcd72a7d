import Derived.Test.YtnlpmcgpdaifoaaDoorInts2
import Derived.Test.YtnlpmcgpdaifoaaDoorInts1
import Derived.Test.YtnlpmcgpdaifoaaDoorScene
/- New lists of numbers, and the laws' copy of one. -/
namespace Go.Proofs.YtnlpmcgpdaifoaaDoor
open Go.RowKit
set_option maxRecDepth 100000

/-- A new list of numbers is returned. -/
def NewI (w : World) (M : List Int) (e : Ending) (w' : World) : Prop :=
  ∃ A c, e = .returned (.slice A M.length c) ∧ w'.ownsRow w.heap.size 3 1 (.slice A M.length c) M.length (M.map I) ∧ Below w.heap.size w w'

theorem newI_own {w w' : World} {v : Value} {M : List Int} {n : Nat} (h : w'.ownsRow w.heap.size 3 1 v n (M.map I)) (hn : M.length = n) (hb : Below w.heap.size w w') : NewI w M (.returned v) w' := by
  subst hn
  obtain ⟨A, c, rfl⟩ := own_slice h
  exact ⟨A, c, rfl, h, hb⟩

theorem toIntI (A : Option Addr) (c : Nat) (L : List Int) (w : World) (hL : Lies w I A L) (hn : L.length ≤ 17592186044416) :
    Calls Tryd.prog 40 #[.slice A L.length c] w (NewI w L) :=
  (toInt A c L w hL hn).mono fun _ _ h => ⟨_, _, h.1, h.2.1, h.2.2⟩

end Go.Proofs.YtnlpmcgpdaifoaaDoor

/- One row of the call's own appended to another, whatever their addresses; at a step of a region that draws its order. Nothing of the program stands here. -/
namespace Go.Proofs.YtnlpmcgpdaifoaaDoor
open Go.RowKit

section
variable {P : Program} (w : World)

theorem run_append_rows (base b2 : Nat) (t ty e : TypeId) (i : TypeInfo) (z : Value) (bytes : Nat) (ht : P.underlying t = some (.slice e)) (hi : P.info? e = some i) (hz : i.zero = some z)
    (hsize : i.size = 1) (hby : i.bytes = bytes) (hzs : z.cells.size = 1) (v : Value) (n : Nat) (xs : List Value) (hown : w.ownsRow base e 1 v n xs) (u : Value) (m : Nat) (ys : List Value) (h2 : w.ownsRow b2 e 1 u m ys)
    (h1 : ∀ y ∈ ys, y.oneCell' = true) (h63 : n + m ≤ maxLen) (hbytes : (n + m) * bytes ≤ 140737488355328) (hbase : base ≤ w.heap.size) :
    ∃ v' w', (Builtin.append_ #[t, t] ty #[v, u]).run P w = .ok v' w' ∧ w'.ownsRow base e 1 v' (n + m) (xs ++ ys) ∧ w.grownBy w' v.ownBlock ∧ (v'.ownBlock = v.ownBlock ∨ v'.ownBlock = some w.heap.size) := by
  have hl := h2.1
  rcases h2.2 with ⟨rfl, rfl⟩ | ⟨g, cap, cur, rfl, _⟩
  · have hy : ys = [] := List.eq_nil_of_length_eq_zero (by simpa using hl)
    subst hy
    exact ⟨v, w, run_append_owned_none (P := P) w base t ty e i 1 ht hi v n xs hown, by simpa using hown, World.grownBy.refl w _, .inl rfl⟩
  · obtain ⟨v', w', hr, a, b, _, c⟩ := run_append_own_at (P := P) w base t ty e i z 1 bytes ht hi hz hsize hby hzs (by decide) v n xs hown ⟨g, 0, none⟩ m cap ys hl (h2.cells (g := g) rfl) h1 h63 hbytes hbase
    exact ⟨v', w', hr, a, b, c⟩

theorem step_append_rows {ops : Array Oper} {o : Oper} {a : Act} {K : Act → World → Prop} {Q : Exit → Act → World → Prop} {E : Prop} (hgd : o.guard = none) (s x : Operand) (t : TypeId)
    (ho : o.op = .call { callee := .builtin .append, args := #[s, x], argTypes := #[t, t] })
    (base b2 : Nat) (e : TypeId) (i : TypeInfo) (z : Value) (bytes : Nat) (ht : P.underlying t = some (.slice e)) (hi : P.info? e = some i) (hz : i.zero = some z) (hsize : i.size = 1) (hby : i.bytes = bytes) (hzs : z.cells.size = 1)
    (v : Value) (n : Nat) (xs : List Value) (hs : a.eval s = v) (hown : w.ownsRow base e 1 v n xs) (u : Value) (m : Nat) (ys : List Value) (hx : a.eval x = u) (h2 : w.ownsRow b2 e 1 u m ys)
    (h1 : ∀ y ∈ ys, y.oneCell' = true) (h63 : n + m ≤ maxLen) (hbytes : (n + m) * bytes ≤ 140737488355328) (hbase : base ≤ w.heap.size)
    (h : ∀ v' w', w'.ownsRow base e 1 v' (n + m) (xs ++ ys) → w.grownBy w' v.ownBlock → (v'.ownBlock = v.ownBlock ∨ v'.ownBlock = some w.heap.size) → K (a.put o.dst v') w') :
    if Region.wanted o (yielded ops a.tmps) = true then Oper.wp P o a w K Q else E := by
  obtain ⟨v', w', hrun, a1, a2, a3⟩ := run_append_rows (P := P) w base b2 t o.type e i z bytes ht hi hz hsize hby hzs v n xs hown u m ys h2 h1 h63 hbytes hbase
  rw [if_pos (by simp [Region.wanted, hgd])]
  unfold Oper.wp execOp
  simp only [ho, resolve, invoke, builtin, Sem.run_bind, Sem.run_pure, Result.andThen_ok, List.map_toArray, List.map_cons, List.map_nil, hs, hx, hrun]
  exact h v' w' a1 a2 a3
end

end Go.Proofs.YtnlpmcgpdaifoaaDoor
