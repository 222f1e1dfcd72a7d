import Derived.Test.YtlbnngolcoefdaaDoorLaws2
import Derived.Test.YtlbnngolcoefdaaDoorPk1
import Derived.Test.YtlbnngolcoefdaaDoorSp4
import Derived.Test.YtlbnngolcoefdaaDoorJoinMath
import Derived.Test.YtlbnngolcoefdaaDoorLaws5
import Derived.Test.YtlbnngolcoefdaaDoorSp10
import Derived.Test.YtlbnngolcoefdaaDoorPk4
import Derived.Test.YtlbnngolcoefdaaDoorPk8
import Derived.Maps.AppendAt
/- One row of the call's own appended to another, whatever their addresses; at a step of a region that draws its order. Nothing of the program stands here. -/
namespace Go.Proofs.YtlbnngolcoefdaaDoor
open Go.RowKit

section
variable {P : Program} (w : World)

theorem run_append_rows (base b2 : Nat) (t ty e : TypeId) (i : TypeInfo) (z : Value) (bytes : Nat) (ht : P.underlying t = some (.slice e)) (hi : P.info? e = some i) (hz : i.zero = some z)
    (hsize : i.size = 1) (hby : i.bytes = bytes) (hzs : z.cells.size = 1) (v : Value) (n : Nat) (xs : List Value) (hown : w.ownsRow base e 1 v n xs) (u : Value) (m : Nat) (ys : List Value) (h2 : w.ownsRow b2 e 1 u m ys)
    (h1 : ∀ y ∈ ys, y.oneCell' = true) (h63 : n + m ≤ maxLen) (hbytes : (n + m) * bytes ≤ 140737488355328) (hbase : base ≤ w.heap.size) :
    ∃ v' w', (Builtin.append_ #[t, t] ty #[v, u]).run P w = .ok v' w' ∧ w'.ownsRow base e 1 v' (n + m) (xs ++ ys) ∧ w.grownBy w' v.ownBlock ∧ (v'.ownBlock = v.ownBlock ∨ v'.ownBlock = some w.heap.size) := by
  have hl := h2.1
  rcases h2.2 with ⟨rfl, rfl⟩ | ⟨g, cap, cur, rfl, _⟩
  · have hy : ys = [] := List.eq_nil_of_length_eq_zero (by simpa using hl)
    subst hy
    exact ⟨v, w, run_append_owned_none (P := P) w base t ty e i 1 ht hi v n xs hown, by simpa using hown, World.grownBy.refl w _, .inl rfl⟩
  · obtain ⟨v', w', hr, a, b, _, c⟩ := run_append_own_at (P := P) w base t ty e i z 1 bytes ht hi hz hsize hby hzs (by decide) v n xs hown ⟨g, 0, none⟩ m cap ys hl (h2.cells (g := g) rfl) h1 h63 hbytes hbase
    exact ⟨v', w', hr, a, b, c⟩

theorem step_append_rows {ops : Array Oper} {o : Oper} {a : Act} {K : Act → World → Prop} {Q : Exit → Act → World → Prop} {E : Prop} (hgd : o.guard = none) (s x : Operand) (t : TypeId)
    (ho : o.op = .call { callee := .builtin .append, args := #[s, x], argTypes := #[t, t] })
    (base b2 : Nat) (e : TypeId) (i : TypeInfo) (z : Value) (bytes : Nat) (ht : P.underlying t = some (.slice e)) (hi : P.info? e = some i) (hz : i.zero = some z) (hsize : i.size = 1) (hby : i.bytes = bytes) (hzs : z.cells.size = 1)
    (v : Value) (n : Nat) (xs : List Value) (hs : a.eval s = v) (hown : w.ownsRow base e 1 v n xs) (u : Value) (m : Nat) (ys : List Value) (hx : a.eval x = u) (h2 : w.ownsRow b2 e 1 u m ys)
    (h1 : ∀ y ∈ ys, y.oneCell' = true) (h63 : n + m ≤ maxLen) (hbytes : (n + m) * bytes ≤ 140737488355328) (hbase : base ≤ w.heap.size)
    (h : ∀ v' w', w'.ownsRow base e 1 v' (n + m) (xs ++ ys) → w.grownBy w' v.ownBlock → (v'.ownBlock = v.ownBlock ∨ v'.ownBlock = some w.heap.size) → K (a.put o.dst v') w') :
    if Region.wanted o (yielded ops a.tmps) = true then Oper.wp P o a w K Q else E := by
  obtain ⟨v', w', hrun, a1, a2, a3⟩ := run_append_rows (P := P) w base b2 t o.type e i z bytes ht hi hz hsize hby hzs v n xs hown u m ys h2 h1 h63 hbytes hbase
  rw [if_pos (by simp [Region.wanted, hgd])]
  unfold Oper.wp execOp
  simp only [ho, resolve, invoke, builtin, Sem.run_bind, Sem.run_pure, Result.andThen_ok, List.map_toArray, List.map_cons, List.map_nil, hs, hx, hrun]
  exact h v' w' a1 a2 a3
end

end Go.Proofs.YtlbnngolcoefdaaDoor

/- The specification's BitsJoin. -/
namespace Go.Proofs.YtlbnngolcoefdaaDoor
open Go.RowKit
set_option maxRecDepth 100000

/-- What BitsJoin is to return. -/
def jOk (N : Int) (L : List Nat) (M : Int) (K : List Nat) : Bool := okB N L && okB M K && decide (N + M ≤ 5000)
def jN (N : Int) (L : List Nat) (M : Int) (K : List Nat) : Int := if jOk N L M K = true then N + M else 0
def jW (N : Int) (L : List Nat) (M : Int) (K : List Nat) : List Nat := if jOk N L M K = true then wordsOf (bitsOf N.toNat L ++ bitsOf M.toNat K) else []

theorem newBits_no (N : Int) (L : List Nat) (M : Int) (K : List Nat) (h : jOk N L M K = false) {w w' : World} (hb : Below w.heap.size w w') :
    NewBits w (jN N L M K) (jW N L M K) (jOk N L M K) (.returned (.tuple #[.agg #[.int .i64 0, .slice none 0 0], .bool false])) w' := by
  unfold NewBits jN jW
  rw [h, if_neg (by simp), if_neg (by simp)]
  exact ⟨none, 0, rfl, World.ownsRow_nil _ _ _ _, hb⟩

end Go.Proofs.YtlbnngolcoefdaaDoor

/- A scene in which one row grows: what is newer is forgotten, what is older stays. -/
namespace Go.Proofs.YtlbnngolcoefdaaDoor
open Go.RowKit

theorem Items.low {S : Nat} {w : World} : ∀ {hi : Nat} {its : List Item}, Items S w hi its → S ≤ hi
  | _, [], h => h
  | _, _ :: _, ⟨_, h1, _, h3⟩ => Nat.le_trans (Items.low h3) h1

theorem Items.split {S : Nat} {w : World} : ∀ {hi : Nat} {its : List Item} (_ : Items S w hi its) (i : Nat) (it : Item), its[i]? = some it → ∃ lo hi', it.ok w lo hi' ∧ lo ≤ hi ∧ Items S w lo (its.drop (i + 1))
  | hi, it :: rest, ⟨lo, h1, h2, h3⟩, 0, it', h => by
    obtain rfl : it = it' := by simpa using h
    exact ⟨lo, hi, h2, h1, h3⟩
  | hi, it :: rest, ⟨lo, h1, h2, h3⟩, i + 1, it', h => by
    obtain ⟨lo', hi', a, b, c⟩ := Items.split h3 i it' (by simpa using h)
    exact ⟨lo', hi', a, Nat.le_trans b h1, c⟩

section
variable {w0 w w' : World} {its : List Item}
theorem Scene.pick (h : Scene w0 w its) (i : Nat) {e : TypeId} {v : Value} {n : Nat} {xs : List Value} (hi : its[i]? = some (.row e v n xs)) :
    ∃ lo, lo ≤ w.heap.size ∧ w.ownsRow lo e 1 v n xs ∧ Items w0.heap.size w lo (its.drop (i + 1)) := by
  obtain ⟨lo, hi', a, b, c⟩ := h.items.split i _ hi
  exact ⟨lo, b, a.1, c⟩
theorem Scene.grow (hb : Below w0.heap.size w0 w) {lo : Nat} (hit : Items w0.heap.size w lo its) (hle : lo ≤ w.heap.size) {e : TypeId} {v : Value} {n : Nat} {xs : List Value} (hown : w.ownsRow lo e 1 v n xs) (hg : w.grownBy w' v.ownBlock)
    {v' : Value} {n' : Nat} {zs : List Value} (ho : w'.ownsRow lo e 1 v' n' zs) : Scene w0 w' (.row e v' n' zs :: its) := by
  have hS := hit.low
  refine ⟨hb.trans (grown_below hown hg hS hb.size), lo, Nat.le_trans hle hg.size, ⟨ho, fun k hk => (ho.lt k hk).2⟩, hit.turn fun k _ hk => hg.block k (by omega) fun he => ?_⟩
  have := (hown.lt k he.symm).1
  omega
end

end Go.Proofs.YtlbnngolcoefdaaDoor

/- The specification's BitsJoin, of two valid bit vectors. -/
namespace Go.Proofs.YtlbnngolcoefdaaDoor
open Go.RowKit
set_option maxRecDepth 100000

theorem list_new (n : Nat) (A : Option Addr) (c : Nat) (L : List Nat) (w : World) (hL : Lies w U A L) (hl : L.length = (n + 63) / 64) (hn : n ≤ 5000) (hw : ∀ x ∈ L, x < 2 ^ 64) :
    Calls Tryd.prog 135 #[.agg #[.int .i64 n, .slice A L.length c]] w fun e w' => ∃ A' c', e = .returned (.slice A' n c') ∧ w'.ownsRow w.heap.size 3 1 (.slice A' n c') n ((bitsOf n L).map I) ∧ Below w.heap.size w w' :=
  (list_any n A c L w hL (by omega) hn (by omega) hw).mono fun e w' h => by
    obtain ⟨v, he, ho, hb⟩ := h
    obtain ⟨A', c', rfl⟩ := own_slice ho
    exact ⟨A', c', he, ho, hb⟩

theorem specOf_n (A : Option Addr) (n c : Nat) (B : List Int) (w : World) (hB : Lies w I A B) (hl : B.length = n) (hn : n ≤ 17592186044416) :
    Calls Tryd.prog 53 #[.slice A n c] w (NewBits w (resN B) (resW B) (okBits B)) := by
  subst hl
  exact (specOf_any A c B w hB hn).mono fun e w' h => newBits_of h

theorem keep2 {w : World} {P o Q r : Nat} {a b : Value} {B O : Nat} {d : Value} (h : w.cell? ⟨B, O, none⟩ = some d) (h1 : B < P) (h2 : B < Q) : ((w.setCell ⟨P, o, none⟩ a).setCell ⟨Q, r, none⟩ b).cell? ⟨B, O, none⟩ = some d := by
  rw [World.cell?_setCell_other, World.cell?_setCell_other, h]
  · intro e
    injection e
    omega
  · intro e
    injection e
    omega

end Go.Proofs.YtlbnngolcoefdaaDoor

/- The specification's l03Same and l03List. -/
namespace Go.Proofs.YtlbnngolcoefdaaDoor
open Go.RowKit
set_option maxRecDepth 100000

set_option maxHeartbeats 800000 in
theorem l03Same_no (N M : Int) (A B : Option Addr) (n m c d : Nat) (w : World) (h : N ≠ M ∨ n ≠ m) :
    Calls Tryd.prog 133 #[.agg #[.int .i64 N, .slice A n c], .agg #[.int .i64 M, .slice B m d]] w fun e w' => e = .returned (.bool false) ∧ Below w.heap.size w w' := by
  by_cases hN : N = M
  · have t1 : (N != M) = false := by simpa using hN
    have t2 : ((n : Int) != (m : Int)) = true := by rw [bne_iff_ne]; omega
    clear hN
    go_enter Tryd.func133, Tryd.ntmps133
    go_wp2
    go_ret
    exact ⟨rfl, by go_grown⟩
  · have t1 : (N != M) = true := by simpa using hN
    go_enter Tryd.func133, Tryd.ntmps133
    go_wp2
    go_ret
    exact ⟨rfl, by go_grown⟩

set_option maxHeartbeats 800000 in
theorem l03Same_len (N : Int) (A B : Option Addr) (n c d : Nat) (L K : List Nat) (w : World) (hL : Lies w U A L) (hK : Lies w U B K) (HL : Hid (L.length = n)) (HK : Hid (K.length = n)) (hn : n ≤ 17592186044416) :
    Calls Tryd.prog 133 #[.agg #[.int .i64 N, .slice A n c], .agg #[.int .i64 N, .slice B n d]] w fun e w' => e = .returned (.bool (decide (L = K))) ∧ Below w.heap.size w w' := by
  have t1 : (N != N) = false := by simp
  go_enter Tryd.func133, Tryd.ntmps133
  go_wp2
  clear t1
  go_loopw [5] (fun i wr => ∃ k : Nat, k ≤ n ∧ i = .int .i64 k ∧ Hid (L.take k = K.take k) ∧ Scene w wr [.box (w.heap.size + 1) 29 #[.int .i64 N, .slice B n d], .box w.heap.size 29 #[.int .i64 N, .slice A n c]]) (fun i _ => n - (intOf i).toNat)
  case atStart =>
    have sc := ((Scene.start w).box 29 #[.int .i64 N, .slice A n c]).box 29 #[.int .i64 N, .slice B n d]
    rw [World.size_alloc] at sc
    exact ⟨0, Nat.zero_le _, rfl, Lib.hid rfl, sc⟩
  case round =>
    obtain ⟨k, hk, rfl, HT, sc⟩ := hrel
    obtain ⟨f0, f1, fl⟩ := sc.two 0 rfl
    obtain ⟨g0, g1, gl⟩ := sc.two 1 rfl
    by_cases hlt : k < n
    · obtain ⟨b, o, x, rfl, hbl, hx, hc⟩ := hL.at_ (i := k) (by rw [HL.out]; exact hlt)
      obtain ⟨b', o', y, rfl, hbl', hy, hc'⟩ := hK.at_ (i := k) (by rw [HK.out]; exact hlt)
      have hcx : wr.cell? ⟨b, o + k, none⟩ = some (.int .u64 x) := (sc.below.cell (p := ⟨b, o + k, none⟩) hbl).trans hc
      have hcy : wr.cell? ⟨b', o' + k, none⟩ = some (.int .u64 y) := (sc.below.cell (p := ⟨b', o' + k, none⟩) hbl').trans hc'
      have HX := Lib.hid hx
      have HY := Lib.hid hy
      have SC := Lib.hid sc
      clear hx hy hL hK hc hc' sc
      by_cases hxy : x = y
      · subst hxy
        go_wp2
        go_quiet (fail)
        go_wp2
        go_roundw
        case rel => exact ⟨k + 1, by omega, by go_num, Lib.hid (take_same_succ HT.out HX.out HY.out), SC.out.draw _⟩
        case measure => simp [intOf]; omega
      · have hne : ((x : Int) != (y : Int)) = true := by rw [bne_iff_ne]; omega
        have hne3 : ¬ ((x : Int) = (y : Int)) := by omega
        have HF := Lib.hid (decide_eq_false (ne_of_at HX.out HY.out hxy))
        go_wp2
        go_quiet (fail)
        go_wp2
        go_ret
        exact ⟨ret_bool HF.out.symm, below_dN SC.out.below _⟩
    · have HB := Lib.hid sc.below
      clear sc
      go_wp2
      go_ret
      have e : L = K := by
        have h := HT.out
        rwa [List.take_of_length_le (by rw [HL.out]; omega), List.take_of_length_le (by rw [HK.out]; omega)] at h
      exact ⟨ret_bool (decide_eq_true e).symm, HB.out⟩

theorem l03Same_any (N M : Int) (A B : Option Addr) (c d : Nat) (L K : List Nat) (w : World) (hL : Lies w U A L) (hK : Lies w U B K) (hn : L.length ≤ 17592186044416) :
    Calls Tryd.prog 133 #[.agg #[.int .i64 N, .slice A L.length c], .agg #[.int .i64 M, .slice B K.length d]] w fun e w' => e = .returned (.bool (decide (N = M ∧ L = K))) ∧ Below w.heap.size w w' := by
  by_cases h : N = M ∧ L.length = K.length
  · obtain ⟨rfl, hl⟩ := h
    have h2 := l03Same_len N A B L.length c d L K w hL hK (Lib.hid rfl) (Lib.hid hl.symm) hn
    rw [← hl]
    refine h2.mono fun e w' h => ⟨?_, h.2⟩
    rw [h.1]
    simp
  · refine (l03Same_no N M A B L.length K.length c d w (by omega)).mono fun e w' h' => ⟨?_, h'.2⟩
    rw [h'.1, decide_eq_false]
    rintro ⟨rfl, rfl⟩
    exact h ⟨rfl, rfl⟩

/-- A row that grows, and the box of the argument. -/
structure GrInv (w : World) (t : TypeId) (cs : Array Value) (D : List Int) (s : Value) (W : World) : Prop where
  below : Below w.heap.size w W
  res : Box W w.heap.size t cs
  own : W.ownsRow (w.heap.size + 1) 3 1 s D.length (D.map I)
theorem GrInv.push {w : World} {t : TypeId} {cs : Array Value} {D : List Int} {s v : Value} {W W' : World} {o : Obj} {x : Int} (h : GrInv w t cs D s W) (hown : W'.ownsRow (w.heap.size + 1) 3 1 v (D.length + 1) (D.map I ++ [.int .i64 x])) (hg : (W.alloc o).grownBy W' s.ownBlock) : GrInv w t cs (D ++ [x]) v W' := by
  have hlt := h.res.lt
  refine ⟨(h.below.alloc (by omega) o).grown hg (by simp; omega) (fun j hj => by have := (h.own.lt j hj).1; omega), (h.res.alloc o).grown hg (own_apart h.own (by omega)), ?_⟩
  rw [List.length_append, List.map_append]
  exact hown
theorem GrInv.draw {w : World} {t : TypeId} {cs : Array Value} {D : List Int} {s : Value} {W : World} (h : GrInv w t cs D s W) : GrInv w t cs D s W.drew := ⟨h.below.drew, h.res, h.own⟩

end Go.Proofs.YtlbnngolcoefdaaDoor
