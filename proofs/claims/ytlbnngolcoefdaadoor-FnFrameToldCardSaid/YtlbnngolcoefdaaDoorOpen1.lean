/- How this seat's plain arguments are opened. -/
import Derived.Test.YtlbnngolcoefdaaDoorRows
import Derived.Test.YtlbnngolcoefdaaDoorLift
namespace Go.Proofs.YtlbnngolcoefdaaDoor
open Go.ChangeShapes Go.WideShapes Go.ChangeAt Go.RowKit Go.Joins
set_option maxRecDepth 100000

theorem Tryd.own : ownKnob Tryd.prog.godebug = none := by kernel_rfl
theorem Tryd.laidOut : laidOutB Tryd.prog = true := by kernel_rfl
theorem Tryd.cellsBits : Tryd.prog.cellsOf 56 = 2 := by kernel_rfl
theorem Tryd.cellsU64 : Tryd.prog.cellsOf 113 = 1 := by kernel_rfl

theorem open_bits {H : Type} {enc : TypeId × Value → H} {W : World} {b0 base : Nat} {held : Bool} {v : Value} {d : DataW H} {p : List MemPlace} (hv : Value.okWide Tryd.prog W .any b0 56 v)
    (h : DataW.Trod enc Tryd.prog W base (fun _ => true) held 56 v d p) :
    ∃ (N : Int) (A : Option Addr) (c : Nat) (L : List Nat), v = .agg #[.int .i64 N, .slice A L.length c] ∧ (Lit.int .i64 N).wf = true ∧ L.length ≤ 9223372036854775807 ∧ Lies W U A L ∧ ∀ n ∈ L, n < 2 ^ 64 := by
  obtain ⟨c0, c1, y0, y1, m, rfl, rfl, rfl, hy0, hy1⟩ := open_agg2 Tryd.underlying56 (by kernel_rfl) Tryd.cellsBits hv h
  obtain ⟨a, e0, rfl, wa⟩ := DataW.trod_int Tryd.underlying3 hy0
  obtain ⟨A, c, L, rfl, hl, hL, hw⟩ := open_words Tryd.underlying27 Tryd.underlying113 Tryd.cellsU64 hy1
  simp at e0
  subst e0
  exact ⟨a, A, c, L, rfl, wa, hl, hL, hw⟩

theorem Tryd.cellsInt : Tryd.prog.cellsOf 3 = 1 := by kernel_rfl
theorem open_intsArg {H : Type} {enc : TypeId × Value → H} {W : World} {b0 base : Nat} {held : Bool} {v : Value} {d : DataW H} {p : List MemPlace} (hv : Value.okWide Tryd.prog W .any b0 24 v)
    (h : DataW.Trod enc Tryd.prog W base (fun _ => true) held 24 v d p) :
    ∃ (A : Option Addr) (c : Nat) (L : List Int), v = .slice A L.length c ∧ L.length ≤ 9223372036854775807 ∧ Lies W I A L ∧ ∀ n ∈ L, (Lit.int .i64 n).wf = true := by
  obtain ⟨a0, len, cap, rfl⟩ := okWide_slice Tryd.underlying24 hv
  obtain ⟨fuel, hf⟩ := h
  exact open_lies Tryd.underlying24 Tryd.underlying3 Tryd.cellsInt (by simpa [Value.cells] using hf)

end Go.Proofs.YtlbnngolcoefdaaDoor
