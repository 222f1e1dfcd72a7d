/- How a list of frames among the arguments is opened. -/
import Derived.Test.YtlbnngolcoefdaaOpen4
import Derived.Test.YtlbnngolcoefdaaFrs3
import Derived.Deep.SlicePairs
namespace Go.Proofs.Ytlbnngolcoefdaa
open Go.ChangeShapes Go.WideShapes Go.ChangeAt Go.RowKit Go.Joins
set_option maxRecDepth 100000

theorem open_framesArg {H : Type} {enc : TypeId × Value → H} {W : World} {b0 base : Nat} {held : Bool} {v : Value} {d : DataW H} {p : List MemPlace} (hv : Value.okWide Try.prog W .any b0 59 v)
    (h : DataW.Trod enc Try.prog W base (fun _ => true) held 59 v d p) :
    ∃ (A : Option Addr) (c : Nat) (P : List FrA), v = .slice A P.length c ∧ P.length ≤ 9223372036854775807 ∧ LiesG W A P ∧ ∀ (k : Nat) (p : FrA), P[k]? = some p → p.L.length ≤ 9223372036854775807 := by
  obtain ⟨a0, len0, cap0, rfl⟩ := okWide_slice Try.underlying59 hv
  obtain ⟨fuel, hf⟩ := h
  have hf' : DataW.trod enc Try.prog W base (fun _ => true) held fuel 59 [.slice a0 len0 cap0] = some (d, p) := by simpa [Value.cells] using hf
  rcases Deep.open_slice_pairs Try.underlying59 Try.underlying49 Try.cellsFrame rfl rfl (by kernel_rfl) (by kernel_rfl) hf' with ⟨hcs, _⟩ | ⟨a, len, cap, m, n, V0, V1, D0, D1, P0, P1, hcs, _, hl, hm, hmm, _, hx⟩
  · refine ⟨none, 0, [], by simpa using hcs, by simp, fun j p h => by simp at h, fun k p h => by simp at h⟩
  · have hmc : m = cap := by simpa using hmm
    have each : ∀ i, i < len → ∃ q : FrA, W.cell? (a.add (i * 2)) = some (.int .i64 q.K) ∧ W.cell? (a.add (i * 2 + 1)) = some (.slice q.A q.L.length q.c) ∧ q.L.length ≤ 9223372036854775807 ∧ Lies W B8 q.A q.L ∧ ∀ x ∈ q.L, x < 2 ^ 8 := by
      intro i hi
      obtain ⟨c1, c2, t1, t2⟩ := hx i (by omega)
      obtain ⟨k, e0, _, _⟩ := DataW.trod_int Try.underlying3 t1
      obtain ⟨A, c, L, e1, hl', hL, hw⟩ := open_bytes Try.underlying43 Try.underlying5 Try.cellsU8 t2
      simp at e0
      exact ⟨⟨k, A, c, L⟩, by rw [c1, e0], by rw [c2, e1], hl', hL, hw⟩
    have : Inhabited FrA := ⟨⟨0, none, 0, []⟩⟩
    obtain ⟨q, hq⟩ := Deep.choose_lt each
    have hlen : ((List.range len).map q).length = len := by simp
    have get : ∀ (j : Nat) (p : FrA), ((List.range len).map q)[j]? = some p → j < len ∧ p = q j := fun j p hp => by
      have hj : j < len := by have := (List.getElem?_eq_some_iff.1 hp).1; omega
      rw [List.getElem?_map, List.getElem?_range hj] at hp
      exact ⟨hj, (Option.some.inj hp).symm⟩
    refine ⟨some a, cap, (List.range len).map q, by rw [hlen]; simpa using hcs, by rw [hlen]; unfold maxLen at hm; omega, ?_, ?_⟩
    · intro j p hp
      obtain ⟨hj, rfl⟩ := get j p hp
      obtain ⟨c1, c2, c3, c4, c5⟩ := hq j hj
      obtain ⟨d1, d2, d3, d4, d5⟩ := hq 0 (by omega)
      obtain ⟨b, off, spot⟩ := a
      have hspot : spot = none := by simpa [Addr.add] using World.cell?_spot d1
      subst hspot
      rw [add_plain] at c1 c2
      exact ⟨⟨b, off, rfl, World.block_lt_of_cell? W _ c1, c1, by rw [Nat.add_assoc]; exact c2⟩, c4, trivial, c5⟩
    · intro k p hp
      obtain ⟨hj, rfl⟩ := get k p hp
      exact (hq k hj).2.2.1

end Go.Proofs.Ytlbnngolcoefdaa
