/- How a frame among the arguments is opened. -/
import Derived.Test.YtlbnngolcoefdaaOpen2
namespace Go.Proofs.Ytlbnngolcoefdaa
open Go.ChangeShapes Go.WideShapes Go.ChangeAt Go.RowKit Go.Joins
set_option maxRecDepth 100000

theorem Try.cellsFrame : Try.prog.cellsOf 49 = 2 := by kernel_rfl
theorem open_bytes {H : Type} {enc : TypeId × Value → H} {P : Program} {w : World} {base : Nat} {held : Bool} {t e : TypeId} {fuel : Nat} {v : Value} {x : DataW H × List MemPlace} (ht : P.underlying t = some (.slice e)) (he : P.underlying e = some (.int .u8)) (hc : P.cellsOf e = 1)
    (h : DataW.trod enc P w base (fun _ => true) held fuel t [v] = some x) :
    ∃ (A : Option Addr) (c : Nat) (L : List Nat), v = .slice A L.length c ∧ L.length ≤ 9223372036854775807 ∧ Lies w B8 A L ∧ ∀ n ∈ L, n < 2 ^ 8 := by
  obtain ⟨A, c, L, rfl, hl, hL, hw⟩ := open_lies ht he hc h
  have hb : ∀ n ∈ L, 0 ≤ n ∧ n < 2 ^ 8 := fun n hn => by
    have := hw n hn
    simp [Lit.wf, IntKind.min, IntKind.max, IntKind.signed, IntKind.bits] at this
    omega
  refine ⟨A, c, L.map Int.toNat, by simp, by simpa using hl, lies_nat hL fun n hn => (hb n hn).1, ?_⟩
  intro n hn
  obtain ⟨y, hy, rfl⟩ := List.mem_map.1 hn
  have := hb y hy
  omega
theorem open_frame {H : Type} {enc : TypeId × Value → H} {W : World} {b0 base : Nat} {held : Bool} {v : Value} {d : DataW H} {p : List MemPlace} (hv : Value.okWide Try.prog W .any b0 49 v)
    (h : DataW.Trod enc Try.prog W base (fun _ => true) held 49 v d p) :
    ∃ (N : Int) (A : Option Addr) (c : Nat) (L : List Nat), v = .agg #[.int .i64 N, .slice A L.length c] ∧ (Lit.int .i64 N).wf = true ∧ L.length ≤ 9223372036854775807 ∧ Lies W B8 A L ∧ ∀ n ∈ L, n < 2 ^ 8 := by
  obtain ⟨c0, c1, y0, y1, m, rfl, rfl, rfl, hy0, hy1⟩ := open_agg2 Try.underlying49 (by kernel_rfl) Try.cellsFrame hv h
  obtain ⟨a, e0, rfl, wa⟩ := DataW.trod_int Try.underlying3 hy0
  obtain ⟨A, c, L, rfl, hl, hL, hw⟩ := open_bytes Try.underlying43 Try.underlying5 Try.cellsU8 hy1
  simp at e0
  subst e0
  exact ⟨a, A, c, L, rfl, wa, hl, hL, hw⟩

end Go.Proofs.Ytlbnngolcoefdaa
