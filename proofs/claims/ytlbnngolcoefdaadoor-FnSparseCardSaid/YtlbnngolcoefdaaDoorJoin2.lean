import Derived.Test.YtlbnngolcoefdaaDoorMem3
import Derived.Test.YtlbnngolcoefdaaDoorNewB
import Derived.Test.YtlbnngolcoefdaaDoorStage
import Derived.Test.YtlbnngolcoefdaaDoorSelMath2
/- One row of the call's own appended to another, whatever their addresses; at a step of a region that draws its order. Nothing of the program stands here. -/
namespace Go.Proofs.YtlbnngolcoefdaaDoor
open Go.RowKit

section
variable {P : Program} (w : World)

theorem run_append_rows (base b2 : Nat) (t ty e : TypeId) (i : TypeInfo) (z : Value) (bytes : Nat) (ht : P.underlying t = some (.slice e)) (hi : P.info? e = some i) (hz : i.zero = some z)
    (hsize : i.size = 1) (hby : i.bytes = bytes) (hzs : z.cells.size = 1) (v : Value) (n : Nat) (xs : List Value) (hown : w.ownsRow base e 1 v n xs) (u : Value) (m : Nat) (ys : List Value) (h2 : w.ownsRow b2 e 1 u m ys)
    (h1 : ∀ y ∈ ys, y.oneCell' = true) (h63 : n + m ≤ maxLen) (hbytes : (n + m) * bytes ≤ 140737488355328) (hbase : base ≤ w.heap.size) :
    ∃ v' w', (Builtin.append_ #[t, t] ty #[v, u]).run P w = .ok v' w' ∧ w'.ownsRow base e 1 v' (n + m) (xs ++ ys) ∧ w.grownBy w' v.ownBlock ∧ (v'.ownBlock = v.ownBlock ∨ v'.ownBlock = some w.heap.size) := by
  have hl := h2.1
  rcases h2.2 with ⟨rfl, rfl⟩ | ⟨g, cap, cur, rfl, _⟩
  · have hy : ys = [] := List.eq_nil_of_length_eq_zero (by simpa using hl)
    subst hy
    exact ⟨v, w, run_append_owned_none (P := P) w base t ty e i 1 ht hi v n xs hown, by simpa using hown, World.grownBy.refl w _, .inl rfl⟩
  · obtain ⟨v', w', hr, a, b, _, c⟩ := run_append_own_at (P := P) w base t ty e i z 1 bytes ht hi hz hsize hby hzs (by decide) v n xs hown ⟨g, 0, none⟩ m cap ys hl (h2.cells (g := g) rfl) h1 h63 hbytes hbase
    exact ⟨v', w', hr, a, b, c⟩

theorem step_append_rows {ops : Array Oper} {o : Oper} {a : Act} {K : Act → World → Prop} {Q : Exit → Act → World → Prop} {E : Prop} (hgd : o.guard = none) (s x : Operand) (t : TypeId)
    (ho : o.op = .call { callee := .builtin .append, args := #[s, x], argTypes := #[t, t] })
    (base b2 : Nat) (e : TypeId) (i : TypeInfo) (z : Value) (bytes : Nat) (ht : P.underlying t = some (.slice e)) (hi : P.info? e = some i) (hz : i.zero = some z) (hsize : i.size = 1) (hby : i.bytes = bytes) (hzs : z.cells.size = 1)
    (v : Value) (n : Nat) (xs : List Value) (hs : a.eval s = v) (hown : w.ownsRow base e 1 v n xs) (u : Value) (m : Nat) (ys : List Value) (hx : a.eval x = u) (h2 : w.ownsRow b2 e 1 u m ys)
    (h1 : ∀ y ∈ ys, y.oneCell' = true) (h63 : n + m ≤ maxLen) (hbytes : (n + m) * bytes ≤ 140737488355328) (hbase : base ≤ w.heap.size)
    (h : ∀ v' w', w'.ownsRow base e 1 v' (n + m) (xs ++ ys) → w.grownBy w' v.ownBlock → (v'.ownBlock = v.ownBlock ∨ v'.ownBlock = some w.heap.size) → K (a.put o.dst v') w') :
    if Region.wanted o (yielded ops a.tmps) = true then Oper.wp P o a w K Q else E := by
  obtain ⟨v', w', hrun, a1, a2, a3⟩ := run_append_rows (P := P) w base b2 t o.type e i z bytes ht hi hz hsize hby hzs v n xs hown u m ys h2 h1 h63 hbytes hbase
  rw [if_pos (by simp [Region.wanted, hgd])]
  unfold Oper.wp execOp
  simp only [ho, resolve, invoke, builtin, Sem.run_bind, Sem.run_pure, Result.andThen_ok, List.map_toArray, List.map_cons, List.map_nil, hs, hx, hrun]
  exact h v' w' a1 a2 a3
end

end Go.Proofs.YtlbnngolcoefdaaDoor

/- The specification's BitsJoin. -/
namespace Go.Proofs.YtlbnngolcoefdaaDoor
open Go.RowKit
set_option maxRecDepth 100000

/-- What BitsJoin is to return. -/
def jOk (N : Int) (L : List Nat) (M : Int) (K : List Nat) : Bool := okB N L && okB M K && decide (N + M ≤ 5000)
def jN (N : Int) (L : List Nat) (M : Int) (K : List Nat) : Int := if jOk N L M K = true then N + M else 0
def jW (N : Int) (L : List Nat) (M : Int) (K : List Nat) : List Nat := if jOk N L M K = true then wordsOf (bitsOf N.toNat L ++ bitsOf M.toNat K) else []

theorem newBits_no (N : Int) (L : List Nat) (M : Int) (K : List Nat) (h : jOk N L M K = false) {w w' : World} (hb : Below w.heap.size w w') :
    NewBits w (jN N L M K) (jW N L M K) (jOk N L M K) (.returned (.tuple #[.agg #[.int .i64 0, .slice none 0 0], .bool false])) w' := by
  unfold NewBits jN jW
  rw [h, if_neg (by simp), if_neg (by simp)]
  exact ⟨none, 0, rfl, World.ownsRow_nil _ _ _ _, hb⟩

end Go.Proofs.YtlbnngolcoefdaaDoor

/- The specification's BitsJoin, of two valid bit vectors. -/
namespace Go.Proofs.YtlbnngolcoefdaaDoor
open Go.RowKit
set_option maxRecDepth 100000

theorem list_new (n : Nat) (A : Option Addr) (c : Nat) (L : List Nat) (w : World) (hL : Lies w U A L) (hl : L.length = (n + 63) / 64) (hn : n ≤ 5000) (hw : ∀ x ∈ L, x < 2 ^ 64) :
    Calls Tryd.prog 135 #[.agg #[.int .i64 n, .slice A L.length c]] w fun e w' => ∃ A' c', e = .returned (.slice A' n c') ∧ w'.ownsRow w.heap.size 3 1 (.slice A' n c') n ((bitsOf n L).map I) ∧ Below w.heap.size w w' :=
  (list_any n A c L w hL (by omega) hn (by omega) hw).mono fun e w' h => by
    obtain ⟨v, he, ho, hb⟩ := h
    obtain ⟨A', c', rfl⟩ := own_slice ho
    exact ⟨A', c', he, ho, hb⟩

theorem specOf_n (A : Option Addr) (n c : Nat) (B : List Int) (w : World) (hB : Lies w I A B) (hl : B.length = n) (hn : n ≤ 17592186044416) :
    Calls Tryd.prog 53 #[.slice A n c] w (NewBits w (resN B) (resW B) (okBits B)) := by
  subst hl
  exact (specOf_any A c B w hB hn).mono fun e w' h => newBits_of h

theorem keep2 {w : World} {P o Q r : Nat} {a b : Value} {B O : Nat} {d : Value} (h : w.cell? ⟨B, O, none⟩ = some d) (h1 : B < P) (h2 : B < Q) : ((w.setCell ⟨P, o, none⟩ a).setCell ⟨Q, r, none⟩ b).cell? ⟨B, O, none⟩ = some d := by
  rw [World.cell?_setCell_other, World.cell?_setCell_other, h]
  · intro e
    injection e
    omega
  · intro e
    injection e
    omega

end Go.Proofs.YtlbnngolcoefdaaDoor
