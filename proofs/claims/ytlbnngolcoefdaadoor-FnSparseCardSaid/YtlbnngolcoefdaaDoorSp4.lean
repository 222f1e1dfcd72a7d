/- The program's SparseOf. -/
import Derived.Test.YtlbnngolcoefdaaDoorSp2
import Derived.Test.YtlbnngolcoefdaaDoorSp3
import Derived.Test.YtlbnngolcoefdaaDoorPk7
import Derived.Test.YtlbnngolcoefdaaDoorOf2
import Derived.Test.YtlbnngolcoefdaaDoorNewB
import Derived.Test.YtlbnngolcoefdaaDoorStage
namespace Go.Proofs.YtlbnngolcoefdaaDoor
open Go.RowKit
set_option maxRecDepth 100000

/-- A sparse list as a value. -/
abbrev SP (V N P M K : Int) (a : Value) (H : Int) (b : Value) : Value := .agg #[.int .i64 V, .int .i64 N, .int .i64 P, .int .i64 M, .int .i64 K, a, .int .i64 H, b]

/-- Two rows, the one ahead of the other. -/
def TwoRows (w w' : World) (a : Value) (Ws : List Nat) (b : Value) (Vs : List Nat) : Prop :=
  ∃ mid, w.heap.size ≤ mid ∧ mid ≤ w'.heap.size ∧ w'.ownsRow w.heap.size 113 1 a Ws.length (Ws.map U) ∧ (∀ k, a.ownBlock = some k → k < mid) ∧ w'.ownsRow mid 113 1 b Vs.length (Vs.map U) ∧ Below w.heap.size w w'

/-- A new sparse list is returned with a bool, and nothing that was there is touched. -/
def NewSparse (w : World) (V N P M K : Int) (Ws : List Nat) (H : Int) (Vs : List Nat) (ok : Bool) (e : Ending) (w' : World) : Prop :=
  ∃ A c A' c', e = .returned (.tuple #[SP V N P M K (.slice A Ws.length c) H (.slice A' Vs.length c'), .bool ok]) ∧ TwoRows w w' (.slice A Ws.length c) Ws (.slice A' Vs.length c') Vs

theorem Scene.rows {w0 w w' : World} {its : List Item} (h : Scene w0 w its) {a b : Value} {Ws Vs : List Nat} (ht : TwoRows w w' a Ws b Vs) : Scene w0 w' (.row 113 b Vs.length (Vs.map U) :: .row 113 a Ws.length (Ws.map U) :: its) := by
  obtain ⟨mid, h1, h2, ho1, hk, ho2, hb⟩ := ht
  exact ⟨below_then h.below hb, mid, h2, ⟨ho2, fun k hv => (ho2.lt k hv).2⟩, w.heap.size, h1, ⟨ho1, hk⟩, h.items.turn fun k _ hk => hb.block k hk⟩

theorem own_pastS {w w' : World} {b g : Nat} {e : TypeId} {n : Nat} {v : Value} {xs : List Value} (h : w.ownsRow b e 1 v n xs) (hg : w.grownBy w' (some g)) (hb : g < b) : w'.ownsRow b e 1 v n xs :=
  own_turn h fun k hk => ⟨(h.lt k hk).1, hg.block k (h.lt k hk).2 fun e => by
    have := (h.lt k hk).1
    have := Option.some.inj e
    omega⟩
theorem own_low {w w' : World} {b B : Nat} {e : TypeId} {n : Nat} {v : Value} {xs : List Value} (h : w.ownsRow b e 1 v n xs) (hg : Below B w w') (hb : w.heap.size ≤ B) : w'.ownsRow b e 1 v n xs :=
  own_turn h fun k hk => ⟨(h.lt k hk).1, hg.block k (by have := (h.lt k hk).2; omega)⟩
theorem grown_set (w : World) (g i : Nat) (v : Value) : w.grownBy (w.setCell ⟨g, i, none⟩ v) (some g) := by
  have h := (Below.refl 0 w).setCell (p := ⟨g, i, none⟩) (Nat.zero_le _) v
  exact ⟨h.os, h.tape, h.output, h.size, fun k _ hk => Below.heap_setCell w ⟨g, i, none⟩ v k (fun e => hk (congrArg some e))⟩
theorem row_capS {w : World} {base n c : Nat} {e : TypeId} {A : Option Addr} {xs : List Value} (h : w.ownsRow base e 1 (.slice A n c) n xs) : n ≤ c ∧ c ≤ 9223372036854775807 := by
  obtain ⟨_, h | ⟨g, cap, cur, hv, _, _, h3, h4, _⟩⟩ := h
  · obtain ⟨hv, h0⟩ := h
    injection hv with _ _ hc
    omega
  · injection hv with _ _ hc
    unfold maxLen at h4
    omega

/-- The rows stand where the result was laid into the box s. -/
theorem two_end {w wa wb W : World} {s mid b1 : Nat} {a b : Value} {Ws Vs : List Nat} (hs : w.heap.size = s) (ho1 : wa.ownsRow b1 113 1 a Ws.length (Ws.map U)) (hb1 : s < b1) (h12 : Below wa.heap.size wa wb) (hm : wa.heap.size ≤ mid) (hm2 : mid ≤ wb.heap.size)
    (ho2 : wb.ownsRow mid 113 1 b Vs.length (Vs.map U)) (hsa : s < wa.heap.size) (hbw : Below s w wb) (hg : wb.grownBy W (some s)) : TwoRows w W a Ws b Vs := by
  subst hs
  refine ⟨mid, by omega, Nat.le_trans hm2 hg.size, own_mono (own_pastS (own_low ho1 h12 (Nat.le_refl _)) hg hb1) (Nat.le_of_lt hb1), fun k hk => ?_, own_pastS ho2 hg (by omega), ?_⟩
  · have := (ho1.lt k hk).2
    omega
  · exact hbw.grown hg hbw.size (fun j e => by cases e; exact Nat.le_refl _)

theorem two_nil {w W : World} (hb : Below w.heap.size w W) : TwoRows w W (.slice none 0 0) [] (.slice none 0 0) [] :=
  ⟨w.heap.size, Nat.le_refl _, hb.size, World.ownsRow_nil _ _ _ _, (fun k hk => by cases hk), World.ownsRow_nil _ _ _ _, hb⟩

/-- Is the list represented? -/
def spOk (B : List Int) (u : Int) : Bool := spFits B.length u && srt u 0 B
/-- What SparseOf is to return. -/
def spU (B : List Int) (u : Int) : Int := if spOk B u = true then u else 0
def spN (B : List Int) (u : Int) : Int := if spOk B u = true then (B.length : Int) else 0
def spWd (B : List Int) (u : Int) : Nat := lowV B.length u.toNat
def spP (B : List Int) (u : Int) : Int := if spOk B u = true then poP (rems (spWd B u) B) (spWd B u) else 0
def spM (B : List Int) (u : Int) : Int := if spOk B u = true then poN (rems (spWd B u) B) (spWd B u) else 0
def spK (B : List Int) (u : Int) : Int := if spOk B u = true then poM (rems (spWd B u) B) (spWd B u) else 0
def spW (B : List Int) (u : Int) : List Nat := if spOk B u = true then poW (rems (spWd B u) B) (spWd B u) else []
def spHl (B : List Int) (u : Int) : List Int := hb B (spWd B u) B.length (hiV B.length u.toNat)
def spH (B : List Int) (u : Int) : Int := if spOk B u = true then resN (spHl B u) else 0
def spV (B : List Int) (u : Int) : List Nat := if spOk B u = true then resW (spHl B u) else []
/-- SparseOf's contract. -/
def SparseRes (B : List Int) (u : Int) (w : World) (e : Ending) (w' : World) : Prop := NewSparse w (spU B u) (spN B u) (spP B u) (spM B u) (spK B u) (spW B u) (spH B u) (spV B u) (spOk B u) e w'

theorem sparse_no {B : List Int} {u : Int} {w w' : World} (hno : spOk B u = false) (hb : Below w.heap.size w w') : SparseRes B u w (.returned (.tuple #[SP 0 0 0 0 0 (.slice none 0 0) 0 (.slice none 0 0), .bool false])) w' := by
  unfold SparseRes spU spN spP spM spK spW spH spV
  simp only [hno, Bool.false_eq_true, if_false]
  exact ⟨none, 0, none, 0, rfl, two_nil hb⟩

theorem rems_len (wd : Nat) (B : List Int) : (rems wd B).length = B.length := by simp [rems]

/-- The zero value of a sparse list. -/
abbrev SPZ : Array Value := #[.int .i64 0, .int .i64 0, .int .i64 0, .int .i64 0, .int .i64 0, .slice none 0 0, .int .i64 0, .slice none 0 0]
/-- The cells of a box that holds a sparse list. -/
theorem box_eight {w : World} {g : Nat} {t : TypeId} {a0 a1 a2 a3 a4 a5 a6 a7 : Value} (h : Box w g t #[a0, a1, a2, a3, a4, a5, a6, a7]) : (w.cell? ⟨g, 0, none⟩ = some a0 ∧ w.cell? ⟨g, 1, none⟩ = some a1 ∧ w.cell? ⟨g, 2, none⟩ = some a2 ∧ w.cell? ⟨g, 3, none⟩ = some a3 ∧ w.cell? ⟨g, 4, none⟩ = some a4 ∧ w.cell? ⟨g, 5, none⟩ = some a5 ∧ w.cell? ⟨g, 6, none⟩ = some a6 ∧ w.cell? ⟨g, 7, none⟩ = some a7) ∧
    (w.frozen? ⟨g, 0, none⟩ = false ∧ w.frozen? ⟨g, 1, none⟩ = false ∧ w.frozen? ⟨g, 2, none⟩ = false ∧ w.frozen? ⟨g, 3, none⟩ = false ∧ w.frozen? ⟨g, 4, none⟩ = false ∧ w.frozen? ⟨g, 5, none⟩ = false ∧ w.frozen? ⟨g, 6, none⟩ = false ∧ w.frozen? ⟨g, 7, none⟩ = false) ∧ g < w.heap.size :=
  ⟨⟨h.cell 0, h.cell 1, h.cell 2, h.cell 3, h.cell 4, h.cell 5, h.cell 6, h.cell 7⟩, ⟨h.frozen 0, h.frozen 1, h.frozen 2, h.frozen 3, h.frozen 4, h.frozen 5, h.frozen 6, h.frozen 7⟩, h.lt⟩

set_option maxHeartbeats 1600000 in
theorem implSparse_unfit (A : Option Addr) (c : Nat) (B : List Int) (u : Int) (w : World) (hl : B.length ≤ 17592186044416) (hf : spFits B.length u = false) :
    Calls Tryd.prog 13 #[.slice A B.length c, .int .i64 u] w (SparseRes B u w) := by
  have C := Lib.hid fun W : World => sparseFits_any B.length u W (by omega)
  rw [hf] at C
  have HN : Hid (spOk B u = false) := Lib.hid (by unfold spOk; rw [hf, Bool.false_and])
  have hx := Box.made w 33 SPZ
  obtain ⟨⟨p0, p1, p2, p3, p4, p5, p6, p7⟩, ⟨z0, z1, z2, z3, z4, z5, z6, z7⟩, hlt⟩ := box_eight hx
  clear hx hf
  go_enter Tryd.func13, Tryd.ntmps13
  go_wp2_with (go_at_call 54; refine (C.out _).mono ?_; rintro e w' ⟨rfl, rfl⟩)
  refine bodyPost_ret (v := .tuple #[SP 0 0 0 0 0 (.slice none 0 0) 0 (.slice none 0 0), .bool false]) (by simp [results, Tryd.results13, go_sem, p0, p1, p2, p3, p4, p5, p6, p7]) rfl ?_
  exact sparse_no HN.out (by go_grown)

end Go.Proofs.YtlbnngolcoefdaaDoor
