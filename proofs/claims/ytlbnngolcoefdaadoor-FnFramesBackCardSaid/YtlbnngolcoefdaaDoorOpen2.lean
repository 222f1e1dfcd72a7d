import Derived.Test.YtlbnngolcoefdaaDoorRows
import Derived.Test.YtlbnngolcoefdaaDoorLift
/- How this seat's plain arguments are opened. -/
namespace Go.Proofs.YtlbnngolcoefdaaDoor
open Go.ChangeShapes Go.WideShapes Go.ChangeAt Go.RowKit Go.Joins
set_option maxRecDepth 100000

theorem Tryd.own : ownKnob Tryd.prog.godebug = none := by kernel_rfl
theorem Tryd.laidOut : laidOutB Tryd.prog = true := by kernel_rfl
theorem Tryd.cellsBits : Tryd.prog.cellsOf 56 = 2 := by kernel_rfl
theorem Tryd.cellsU64 : Tryd.prog.cellsOf 113 = 1 := by kernel_rfl

theorem open_bits {H : Type} {enc : TypeId × Value → H} {W : World} {b0 base : Nat} {held : Bool} {v : Value} {d : DataW H} {p : List MemPlace} (hv : Value.okWide Tryd.prog W .any b0 56 v)
    (h : DataW.Trod enc Tryd.prog W base (fun _ => true) held 56 v d p) :
    ∃ (N : Int) (A : Option Addr) (c : Nat) (L : List Nat), v = .agg #[.int .i64 N, .slice A L.length c] ∧ (Lit.int .i64 N).wf = true ∧ L.length ≤ 9223372036854775807 ∧ Lies W U A L ∧ ∀ n ∈ L, n < 2 ^ 64 := by
  obtain ⟨c0, c1, y0, y1, m, rfl, rfl, rfl, hy0, hy1⟩ := open_agg2 Tryd.underlying56 (by kernel_rfl) Tryd.cellsBits hv h
  obtain ⟨a, e0, rfl, wa⟩ := DataW.trod_int Tryd.underlying3 hy0
  obtain ⟨A, c, L, rfl, hl, hL, hw⟩ := open_words Tryd.underlying27 Tryd.underlying113 Tryd.cellsU64 hy1
  simp at e0
  subst e0
  exact ⟨a, A, c, L, rfl, wa, hl, hL, hw⟩

theorem Tryd.cellsInt : Tryd.prog.cellsOf 3 = 1 := by kernel_rfl
theorem open_intsArg {H : Type} {enc : TypeId × Value → H} {W : World} {b0 base : Nat} {held : Bool} {v : Value} {d : DataW H} {p : List MemPlace} (hv : Value.okWide Tryd.prog W .any b0 24 v)
    (h : DataW.Trod enc Tryd.prog W base (fun _ => true) held 24 v d p) :
    ∃ (A : Option Addr) (c : Nat) (L : List Int), v = .slice A L.length c ∧ L.length ≤ 9223372036854775807 ∧ Lies W I A L ∧ ∀ n ∈ L, (Lit.int .i64 n).wf = true := by
  obtain ⟨a0, len, cap, rfl⟩ := okWide_slice Tryd.underlying24 hv
  obtain ⟨fuel, hf⟩ := h
  exact open_lies Tryd.underlying24 Tryd.underlying3 Tryd.cellsInt (by simpa [Value.cells] using hf)

end Go.Proofs.YtlbnngolcoefdaaDoor

/- How more of this seat's arguments are opened: numbers with their bounds, packed integers, bytes. -/
namespace Go.Proofs.YtlbnngolcoefdaaDoor
open Go.ChangeShapes Go.WideShapes Go.ChangeAt Go.RowKit Go.Joins
set_option maxRecDepth 100000

theorem int_le {n : Int} (h : (Lit.int .i64 n).wf = true) : n ≤ 9223372036854775807 := by
  simp [Lit.wf, IntKind.min, IntKind.max, IntKind.signed, IntKind.bits] at h
  omega
theorem int_ge {n : Int} (h : (Lit.int .i64 n).wf = true) : -9223372036854775808 ≤ n := by
  simp [Lit.wf, IntKind.min, IntKind.max, IntKind.signed, IntKind.bits] at h
  omega

theorem Tryd.cellsU8 : Tryd.prog.cellsOf 5 = 1 := by kernel_rfl
theorem open_bytesArg {H : Type} {enc : TypeId × Value → H} {W : World} {b0 base : Nat} {held : Bool} {v : Value} {d : DataW H} {p : List MemPlace} (hv : Value.okWide Tryd.prog W .any b0 22 v)
    (h : DataW.Trod enc Tryd.prog W base (fun _ => true) held 22 v d p) :
    ∃ (A : Option Addr) (c : Nat) (L : List Nat), v = .slice A L.length c ∧ L.length ≤ 9223372036854775807 ∧ Lies W B8 A L ∧ ∀ n ∈ L, n < 2 ^ 8 := by
  obtain ⟨a0, len, cap, rfl⟩ := okWide_slice Tryd.underlying22 hv
  obtain ⟨fuel, hf⟩ := h
  obtain ⟨A, c, L, e, hl, hL, hw⟩ := open_lies Tryd.underlying22 Tryd.underlying5 Tryd.cellsU8 (by simpa [Value.cells] using hf)
  have hb : ∀ n ∈ L, 0 ≤ n ∧ n < 2 ^ 8 := fun n hn => by
    have := hw n hn
    simp [Lit.wf, IntKind.min, IntKind.max, IntKind.signed, IntKind.bits] at this
    omega
  refine ⟨A, c, L.map Int.toNat, by simpa using e, by simpa using hl, lies_nat hL fun n hn => (hb n hn).1, ?_⟩
  intro n hn
  obtain ⟨y, hy, rfl⟩ := List.mem_map.1 hn
  have := hb y hy
  omega

theorem Tryd.cellsWords : Tryd.prog.cellsOf 27 = 1 := by kernel_rfl
theorem Tryd.cellsPacked : Tryd.prog.cellsOf 58 = 4 := by kernel_rfl
theorem open_packed {H : Type} {enc : TypeId × Value → H} {W : World} {b0 base : Nat} {held : Bool} {v : Value} {d : DataW H} {p : List MemPlace} (hv : Value.okWide Tryd.prog W .any b0 58 v)
    (h : DataW.Trod enc Tryd.prog W base (fun _ => true) held 58 v d p) :
    ∃ (P N M : Int) (A : Option Addr) (c : Nat) (L : List Nat), v = .agg #[.int .i64 P, .int .i64 N, .int .i64 M, .slice A L.length c] ∧ (Lit.int .i64 P).wf = true ∧ (Lit.int .i64 N).wf = true ∧ (Lit.int .i64 M).wf = true ∧ L.length ≤ 9223372036854775807 ∧ Lies W U A L ∧ ∀ n ∈ L, n < 2 ^ 64 := by
  obtain ⟨cs, rfl, hsz⟩ := okWide_struct Tryd.underlying58 hv
  obtain ⟨c0, c1, c2, c3, rfl⟩ := array4 (hsz.trans Tryd.cellsPacked)
  obtain ⟨fuel, hf⟩ := h
  obtain ⟨y0, y1, y2, n, _, _, h0, h1, h2⟩ := Go.Deep.trod_struct3 Tryd.underlying58 hf
  obtain ⟨z0, z1, m, _, _, h3, h4⟩ := trod_struct2 Tryd.underlying56 h2
  simp [Value.cells, Tryd.cellsInt, Tryd.cellsBits, Tryd.cellsWords] at h0 h1 h3 h4
  obtain ⟨P, e0, _, w0⟩ := DataW.trod_int Tryd.underlying3 h0
  obtain ⟨N, e1, _, w1⟩ := DataW.trod_int Tryd.underlying3 h1
  obtain ⟨M, e2, _, w2⟩ := DataW.trod_int Tryd.underlying3 h3
  obtain ⟨A, c, L, rfl, hl, hL, hw⟩ := open_words Tryd.underlying27 Tryd.underlying113 Tryd.cellsU64 h4
  simp at e0 e1 e2
  subst e0 e1 e2
  exact ⟨P, N, M, A, c, L, rfl, w0, w1, w2, hl, hL, hw⟩

end Go.Proofs.YtlbnngolcoefdaaDoor
