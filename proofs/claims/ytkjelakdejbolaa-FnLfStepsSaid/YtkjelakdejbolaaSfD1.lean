/- Drawn texts. -/
import Derived.Test.YtkjelakdejbolaaDraw3
import Derived.Test.YtkjelakdejbolaaSlCut
import Derived.Test.YtkjelakdejbolaaScene
namespace Go.Proofs.Ytkjelakdejbolaa
open Go.RowKit
set_option maxRecDepth 100000

set_option maxHeartbeats 1600000 in
theorem sizeN_any (g : Nat) (A : Option Addr) (c : Nat) (D : List Nat) (K top : Nat) (w : World) (h : Cur w g A c D K) (hK : K ≤ 4611686018427387000) (ht : top ≤ 1000) (ht1 : 1 ≤ top) :
    Calls Try.prog 60 #[.pointer (some ⟨g, 0, none⟩), .int .i64 top] w fun e w' => ∃ r : Nat, e = .returned (.int .i64 r) ∧ r ≤ top ∧ Cur w' g A c D (K + 1) ∧ w.grownBy w' (some g) := by
  obtain ⟨a, s, _, _, hbox⟩ := h.box
  have f0 := hbox.cell 0
  simp only [List.getElem?_toArray, List.getElem?_cons_zero, List.getElem?_cons_succ] at f0
  obtain ⟨n, hni, hn20, hn1, hn5⟩ : ∃ n : Nat, (if 1 + (D.length : Int) / 8 < (top : Int) then 1 + (D.length : Int) / 8 else (top : Int)) = (n : Int) ∧ n ≤ top ∧ 1 ≤ n ∧ min (top : Int) (1 + (D.length : Int) / 8) = (n : Int) := by
    by_cases h8 : 1 + D.length / 8 < top
    · exact ⟨1 + D.length / 8, by rw [if_pos (by omega)]; omega, by omega, by omega, by omega⟩
    · exact ⟨top, by rw [if_neg (by omega)], by omega, by omega, by omega⟩
  have hlen := h.len
  clear hbox
  go_enter Try.func60, Try.ntmps60
  go_wp2_with fail
  refine (pick_any g A c D K ((n : Int) + 1) w h (by omega) (by omega)).mono ?_
  rintro e w1 ⟨r, rfl, hr, _, hc1, hg1⟩
  have hr2 : (r : Int) < (n : Int) + 1 := hr (by omega)
  have HC := Lib.hid hc1
  have HG := Lib.hid hg1
  clear hr hc1 hg1 h f0
  go_wp2
  go_ret
  exact ⟨r, rfl, by omega, HC.out, HG.out⟩

set_option maxHeartbeats 400000 in
theorem onceN_any (g : Nat) (A : Option Addr) (c : Nat) (D : List Nat) (K n : Nat) (w : World) (h : Cur w g A c D K) (hn : n ≤ 9223372036854775807) (hK : K ≤ 4611686018427387000) :
    Calls Try.prog 52 #[.pointer (some ⟨g, 0, none⟩), .int .i64 n] w fun e w' => ∃ b : Bool, e = .returned (.bool b) ∧ Cur w' g A c D (K + 1) ∧ w.grownBy w' (some g) := by
  go_enter Try.func52, Try.ntmps52
  go_wp2_with fail
  refine (pick_any g A c D K n w h (by omega) (by omega)).mono ?_
  rintro e w1 ⟨r, rfl, _, _, hc1, hg1⟩
  have HC := Lib.hid hc1
  have HG := Lib.hid hg1
  clear hc1 hg1 h
  go_wp2
  go_ret
  exact ⟨_, rfl, HC.out, HG.out⟩

theorem own_pastG {w w' : World} {b g : Nat} {e : TypeId} {n : Nat} {v : Value} {xs : List Value} (h : w.ownsRow b e 1 v n xs) (hg : w.grownBy w' (some g)) (hb : g < b) : w'.ownsRow b e 1 v n xs :=
  own_turn h fun k hk => ⟨(h.lt k hk).1, hg.block k (h.lt k hk).2 fun e => by
    have := (h.lt k hk).1
    have := Option.some.inj e
    omega⟩
theorem grown_pastG {w w1 w2 : World} {g : Nat} {row : Option Nat} (h : w.grownBy w1 (some g)) (k : w1.grownBy w2 row) (hr : ∀ j, row = some j → w.heap.size ≤ j) : w.grownBy w2 (some g) :=
  h.andThen k fun j hj => .inl (hr j hj)
/-- The cursor stays where only a block changes that was made behind it. -/
theorem Cur.push {w0 w w' : World} {g : Nat} {A : Option Addr} {c : Nat} {D : List Nat} {K : Nat} {row : Option Nat} (h : Cur w g A c D K) (hD : Lies w0 B8 A D) (hg0 : g < w0.heap.size) (hg : w.grownBy w' row) (hr : ∀ j, row = some j → w0.heap.size ≤ j) : Cur w' g A c D K :=
  h.turn hg.size fun k hk hc => hg.block k hk fun e => by
    have h1 := hr k e.symm
    rcases hc with rfl | ⟨o, hl, hA⟩
    · omega
    · obtain ⟨b, o', _, hA', hb, _⟩ := hD.at_ hl
      rw [hA] at hA'
      injection hA' with hA'
      injection hA' with e1 e2
      omega

/-- A piece of a slice of bytes, from i up to j. -/
theorem slice_mid {P : Program} {T : TypeId} (ht : P.underlying T = some (.slice (P.elem T))) (hz : ∀ W : World, (sizeOf (P.elem T)).run P W = .ok 1 W) (b o n c : Nat) (L : List Nat) (i j : Nat) (w : World) (Hn : Hid (L.length = n)) (hL : Lies w B8 (some ⟨b, o, none⟩) L) (hij : i ≤ j) (hj : j ≤ n) (hc : n ≤ c) :
    ∃ o', (∀ W : World, (Instr.slice T (.slice (some ⟨b, o, none⟩) n c) (some (.int .i64 (i : Int))) (some (.int .i64 (j : Int))) none).run P W = .ok (.slice (some ⟨b, o', none⟩) ((L.drop i).take (j - i)).length (c - i)) W) ∧ Lies w B8 (some ⟨b, o', none⟩) ((L.drop i).take (j - i)) := by
  have hn := Hn.out
  have e : ((L.drop i).take (j - i)).length = j - i := by rw [List.length_take, List.length_drop, hn]; omega
  rw [e]
  by_cases hct : c = i
  · refine ⟨o, fun W => ?_, ?_⟩
    · rw [run_slice_lh (P := P) W T _ n c ht .i64 .i64 (i : Int) (j : Int) (by omega) (by omega) (by omega), Int.toNat_natCast, Int.toNat_natCast, hz]
      simp [Result.andThen, sliced, hct]
    · have : (L.drop i).take (j - i) = [] := List.length_eq_zero_iff.1 (by omega)
      rw [this]
      exact Lies.nil_
  · refine ⟨o + i, fun W => ?_, hL.piece i (j - i)⟩
    rw [run_slice_lh (P := P) W T _ n c ht .i64 .i64 (i : Int) (j : Int) (by omega) (by omega) (by omega), Int.toNat_natCast, Int.toNat_natCast, hz]
    simp [Result.andThen, sliced, hct, Addr.add]

/-- A list of bytes was drawn: a row of the call's own. -/
def DrewT (w : World) (g : Nat) (A : Option Addr) (c : Nat) (D : List Nat) (K top : Nat) (e : Ending) (w' : World) : Prop :=
  ∃ (A' : Option Addr) (c' : Nat) (T : List Nat), e = .returned (.slice A' T.length c') ∧ T.length ≤ top ∧ (∀ x ∈ T, x < 2 ^ 8) ∧ w'.ownsRow w.heap.size 5 1 (.slice A' T.length c') T.length (T.map B8) ∧ Cur w' g A c D K ∧ w.grownBy w' (some g)

end Go.Proofs.Ytkjelakdejbolaa
