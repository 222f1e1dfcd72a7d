/- How a wave among the arguments is opened. -/
import Derived.Test.YtnlpmcgpdaifoaaDoorOpen2
import Derived.Test.YtnlpmcgpdaifoaaDoorLv4
import Derived.Deep.SlicePairs
namespace Go.Proofs.YtnlpmcgpdaifoaaDoor
open Go.ChangeShapes Go.WideShapes Go.ChangeAt Go.RowKit Go.Joins
set_option maxRecDepth 100000

theorem Tryd.cellsWave : Tryd.prog.cellsOf 40 = 3 := by kernel_rfl

theorem open_levels {H : Type} {enc : TypeId × Value → H} {W : World} {base fuel : Nat} {held : Bool} {v : Value} {x : DataW H × List MemPlace}
    (hf' : DataW.trod enc Tryd.prog W base (fun _ => true) held fuel 38 [v] = some x) :
    ∃ (A : Option Addr) (c : Nat) (P : List LvA), v = .slice A P.length c ∧ P.length ≤ 9223372036854775807 ∧ LiesLw W A P ∧ ∀ (k : Nat) (p : LvA), P[k]? = some p → p.L.length ≤ 9223372036854775807 := by
  rcases Deep.open_slice_pairs Tryd.underlying38 Tryd.underlying86 Tryd.cellsBits rfl rfl (by kernel_rfl) (by kernel_rfl) hf' with ⟨hcs, _⟩ | ⟨a, len, cap, m, n, V0, V1, D0, D1, P0, P1, hcs, _, hl, hm, hmm, _, hx⟩
  · refine ⟨none, 0, [], by simpa using hcs, by simp, fun j p h => by simp at h, fun k p h => by simp at h⟩
  · have hmc : m = cap := by simpa using hmm
    have each : ∀ i, i < len → ∃ q : LvA, W.cell? (a.add (i * 2)) = some (.int .i64 q.K) ∧ W.cell? (a.add (i * 2 + 1)) = some (.slice q.A q.L.length q.c) ∧ q.L.length ≤ 9223372036854775807 ∧ Lies W U q.A q.L ∧ ∀ x ∈ q.L, x < 2 ^ 64 := by
      intro i hi
      obtain ⟨c1, c2, t1, t2⟩ := hx i (by omega)
      obtain ⟨k, e0, _, _⟩ := DataW.trod_int Tryd.underlying3 t1
      obtain ⟨A, c, L, e1, hl', hL, hw⟩ := open_words Tryd.underlying51 Tryd.underlying75 Tryd.cellsU64 t2
      simp at e0
      exact ⟨⟨k, A, c, L⟩, by rw [c1, e0], by rw [c2, e1], hl', hL, hw⟩
    have : Inhabited LvA := ⟨⟨0, none, 0, []⟩⟩
    obtain ⟨q, hq⟩ := Deep.choose_lt each
    have hlen : ((List.range len).map q).length = len := by simp
    have get : ∀ (j : Nat) (p : LvA), ((List.range len).map q)[j]? = some p → j < len ∧ p = q j := fun j p hp => by
      have hj : j < len := by have := (List.getElem?_eq_some_iff.1 hp).1; omega
      rw [List.getElem?_map, List.getElem?_range hj] at hp
      exact ⟨hj, (Option.some.inj hp).symm⟩
    refine ⟨some a, cap, (List.range len).map q, by rw [hlen]; simpa using hcs, by rw [hlen]; unfold maxLen at hm; omega, ?_, ?_⟩
    · intro j p hp
      obtain ⟨hj, rfl⟩ := get j p hp
      obtain ⟨c1, c2, c3, c4, c5⟩ := hq j hj
      obtain ⟨d1, d2, d3, d4, d5⟩ := hq 0 (by omega)
      obtain ⟨b, off, spot⟩ := a
      have hspot : spot = none := by simpa [Addr.add] using World.cell?_spot d1
      subst hspot
      rw [add_plain] at c1 c2
      exact ⟨⟨b, off, rfl, World.block_lt_of_cell? W _ c1, c1, by rw [Nat.add_assoc]; exact c2⟩, c4, trivial, c5⟩
    · intro k p hp
      obtain ⟨hj, rfl⟩ := get k p hp
      exact (hq k hj).2.2.1

theorem open_wave {H : Type} {enc : TypeId × Value → H} {W : World} {b0 base : Nat} {held : Bool} {v : Value} {d : DataW H} {p : List MemPlace} (hv : Value.okWide Tryd.prog W .any b0 40 v)
    (h : DataW.Trod enc Tryd.prog W base (fun _ => true) held 40 v d p) :
    ∃ (N : Int) (ZA : Option Addr) (zc : Nat) (Z : List Int) (LA : Option Addr) (lc : Nat) (P : List LvA), v = .agg #[.int .i64 N, .slice ZA Z.length zc, .slice LA P.length lc] ∧ Z.length ≤ 9223372036854775807 ∧ Lies W I ZA Z ∧ (∀ z ∈ Z, -9223372036854775808 ≤ z ∧ z ≤ 9223372036854775807) ∧
      P.length ≤ 9223372036854775807 ∧ LiesLw W LA P ∧ ∀ (k : Nat) (p : LvA), P[k]? = some p → p.L.length ≤ 9223372036854775807 := by
  obtain ⟨c0, c1, c2, y0, y1, y2, m, rfl, rfl, rfl, hy0, hy1, hy2⟩ := open_agg3 Tryd.underlying40 (by kernel_rfl) Tryd.cellsWave hv h
  obtain ⟨N, e0, rfl, _⟩ := DataW.trod_int Tryd.underlying3 hy0
  obtain ⟨ZA, zc, Z, rfl, hl, hZ, hw⟩ := open_lies Tryd.underlying24 Tryd.underlying3 Tryd.cellsInt hy1
  obtain ⟨LA, lc, P, rfl, hP, hL, hp⟩ := open_levels hy2
  simp at e0
  subst e0
  exact ⟨N, ZA, zc, Z, LA, lc, P, rfl, hl, hZ, fun z hz => ⟨int_ge (hw z hz), int_le (hw z hz)⟩, hP, hL, hp⟩

end Go.Proofs.YtnlpmcgpdaifoaaDoor
