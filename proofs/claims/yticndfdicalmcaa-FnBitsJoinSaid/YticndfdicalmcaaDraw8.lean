/- The draw of BitsJoin, whole. -/
import Derived.Test.YticndfdicalmcaaDraw7
import Derived.Test.YticndfdicalmcaaDraw3
namespace Go.Proofs.Yticndfdicalmcaa
open Go.RowKit

/-- Two bit vectors that BitsJoin is tried at. -/
def DrewBB (w : World) (e : Ending) (w' : World) : Prop :=
  ∃ (N : Int) (A1 : Option Addr) (c1 : Nat) (L : List Nat) (M : Int) (A2 : Option Addr) (c2 : Nat) (K : List Nat), e = .returned (.tuple #[.agg #[.int .i64 N, .slice A1 L.length c1], .agg #[.int .i64 M, .slice A2 K.length c2]]) ∧ Lies w' U A1 L ∧ Lies w' U A2 K ∧ (∀ x ∈ L, x < 2 ^ 64) ∧ (∀ x ∈ K, x < 2 ^ 64) ∧ L.length ≤ 80 ∧ K.length ≤ 80 ∧ (-9223372036854775808 ≤ N ∧ N ≤ 9223372036854775807) ∧ (-9223372036854775808 ≤ M ∧ M ≤ 9223372036854775807) ∧ Below w.heap.size w w'

theorem drewBB_end {w w1 w2 w3 : World} {g s : Nat} {N M : Int} {A1 A2 : Option Addr} {c1 c2 : Nat} {L K : List Nat} (hs : w.heap.size = s) (hb : Below s w w1) (hgs : s + 1 < g) (hgl : g < w1.heap.size)
    (ho1 : w2.ownsRow w1.heap.size 78 1 (.slice A1 L.length c1) L.length (L.map U)) (hg2 : w1.grownBy w2 (some g)) (ho2 : w3.ownsRow w2.heap.size 78 1 (.slice A2 K.length c2) K.length (K.map U)) (hg3 : w2.grownBy w3 (some g))
    (hL : ∀ x ∈ L, x < 2 ^ 64) (hK : ∀ x ∈ K, x < 2 ^ 64) (hL8 : L.length ≤ 80) (hK8 : K.length ≤ 80) (hN : -9223372036854775808 ≤ N ∧ N ≤ 9223372036854775807) (hM : -9223372036854775808 ≤ M ∧ M ≤ 9223372036854775807) (v0 v1 v2 v3 : Value) :
    DrewBB w (.returned (.tuple #[.agg #[.int .i64 N, .slice A1 L.length c1], .agg #[.int .i64 M, .slice A2 K.length c2]])) ((((w3.setCell ⟨s, 0, none⟩ v0).setCell ⟨s, 1, none⟩ v1).setCell ⟨s + 1, 0, none⟩ v2).setCell ⟨s + 1, 1, none⟩ v3) := by
  have e1 : w3.grownBy ((w3.setCell ⟨s, 0, none⟩ v0).setCell ⟨s, 1, none⟩ v1) (some s) := (grownBy_setCell _ _ _ _).trans (grownBy_setCell _ _ _ _)
  have e2 : ((w3.setCell ⟨s, 0, none⟩ v0).setCell ⟨s, 1, none⟩ v1).grownBy ((((w3.setCell ⟨s, 0, none⟩ v0).setCell ⟨s, 1, none⟩ v1).setCell ⟨s + 1, 0, none⟩ v2).setCell ⟨s + 1, 1, none⟩ v3) (some (s + 1)) := (grownBy_setCell _ _ _ _).trans (grownBy_setCell _ _ _ _)
  have s1 := hg2.size
  have s2 := hg3.size
  have s3 := e1.size
  refine ⟨N, A1, c1, L, M, A2, c2, K, rfl, ?_, ?_, hL, hK, hL8, hK8, hN, hM, ?_⟩
  · exact Lies.of_own (own_past6 (own_past6 (own_past6 ho1 hg3 (by omega)) e1 (by omega)) e2 (by omega))
  · exact Lies.of_own (own_past6 (own_past6 ho2 e1 (by omega)) e2 (by omega))
  · subst hs
    have hz := hb.size
    refine (((hb.grown hg2 ?_ ?_).grown hg3 ?_ ?_).grown e1 ?_ ?_).grown e2 ?_ ?_
    all_goals first | omega | (intro j hj; have := Option.some.inj hj; omega)

set_option maxRecDepth 100000 in
set_option maxHeartbeats 1600000 in
theorem drawJoin_any (A : Option Addr) (c : Nat) (D : List Nat) (w : World) (hD : Lies w B8 A D) (hw : ∀ x ∈ D, x < 2 ^ 8) (hl : D.length ≤ 1048576) :
    Calls Try.prog 16 #[.slice A D.length c] w (DrewBB w) := by
  obtain ⟨w0, hw0⟩ : ∃ w0, (w.alloc (Obj.cells #[.int .i64 0, .slice none 0 0] 26)).alloc (Obj.cells #[.int .i64 0, .slice none 0 0] 26) = w0 := ⟨_, rfl⟩
  have hbA : Below w.heap.size w w0 := by rw [← hw0]; exact ((Below.refl _ _).alloc (Nat.le_refl _) _).alloc (by simp) _
  have hr0 : Box w0 w.heap.size 26 #[.int .i64 0, .slice none 0 0] := by rw [← hw0]; exact (Box.made _ _ _).alloc _
  have hr1 : Box w0 (w.heap.size + 1) 26 #[.int .i64 0, .slice none 0 0] := by
    have h := Box.made (w.alloc (Obj.cells #[Value.int IntKind.i64 0, Value.slice none 0 0] 26)) 26 #[Value.int IntKind.i64 0, Value.slice none 0 0]
    rw [World.size_alloc] at h
    rw [← hw0]; exact h
  have HO := Lib.hid (open_any A c D w0 (hD.below hbA) hw hl)
  have HB := Lib.hid hbA
  have HR0 := Lib.hid hr0
  have HR1 := Lib.hid hr1
  have hs0 : w.heap.size + 2 = w0.heap.size := by rw [← hw0]; simp
  clear hD hw hbA hr0 hr1
  go_enter Try.func16, Try.ntmps16
  go_wp2_with fail
  clear hw0
  refine HO.out.mono ?_
  rintro e w1 ⟨rfl, hc1, hb1⟩
  have hgl := hc1.lt
  have HB1 : Hid (Below w.heap.size w w1) := Lib.hid (HB.out.trans (hb1.mono (by omega)))
  have hq0 := HR0.out.below hb1 (by omega)
  have hq1 := HR1.out.below hb1 (by omega)
  generalize hgg : w0.heap.size = g at *
  generalize hss : w.heap.size = s at *
  clear HO HB HR0 HR1 hb1
  go_wp2_with fail
  refine (badBits_any g A c D 0 w1 hc1 (by omega)).mono ?_
  rintro e w2 ⟨N, A1, c1, L, rfl, ho1, hL, hL8, hN, hc2, hg2⟩
  replace hq0 := hq0.grown hg2 (fun e => by have := Option.some.inj e; omega)
  replace hq1 := hq1.grown hg2 (fun e => by have := Option.some.inj e; omega)
  have H1 := Lib.hid (show _ ∧ _ ∧ _ from ⟨ho1, hg2, hL⟩)
  clear ho1 hg2 hL hc1
  go_wp2_with fail
  refine (badBits_any g A c D (0 + 6010) w2 hc2 (by omega)).mono ?_
  rintro e w3 ⟨M, A2, c2, K, rfl, ho2, hK, hK8, hM, hc3, hg3⟩
  replace hq0 := hq0.grown hg3 (fun e => by have := Option.some.inj e; omega)
  replace hq1 := hq1.grown hg3 (fun e => by have := Option.some.inj e; omega)
  have H2 := Lib.hid (show _ ∧ _ ∧ _ from ⟨ho2, hg3, hK⟩)
  clear ho2 hg3 hK hc2 hc3
  have p0 := hq0.cell 0
  have p1 := hq0.cell 1
  have pz0 := hq0.frozen 0
  have pz1 := hq0.frozen 1
  have hpl := hq0.lt
  have r0 := hq1.cell 0
  have r1 := hq1.cell 1
  have rz0 := hq1.frozen 0
  have rz1 := hq1.frozen 1
  have hrl := hq1.lt
  simp only [List.getElem?_toArray, List.getElem?_cons_zero, List.getElem?_cons_succ] at p0 p1 r0 r1
  clear hq0 hq1
  go_wp2
  refine bodyPost_ret (v := .tuple #[.agg #[.int .i64 N, .slice A1 L.length c1], .agg #[.int .i64 M, .slice A2 K.length c2]]) (by simp [results, Try.results16, go_sem, p0, p1, r0, r1]) rfl ?_
  exact drewBB_end hss HB1.out (by omega) hgl H1.out.1 H1.out.2.1 H2.out.1 H2.out.2.1 H1.out.2.2 H2.out.2.2 hL8 hK8 hN hM _ _ _ _

end Go.Proofs.Yticndfdicalmcaa
