/- How more of this seat's arguments are opened: numbers with their bounds, packed integers, bytes. -/
import Derived.Test.YtlbnngolcoefdaaOpen1
namespace Go.Proofs.Ytlbnngolcoefdaa
open Go.ChangeShapes Go.WideShapes Go.ChangeAt Go.RowKit Go.Joins
set_option maxRecDepth 100000

theorem int_le {n : Int} (h : (Lit.int .i64 n).wf = true) : n ≤ 9223372036854775807 := by
  simp [Lit.wf, IntKind.min, IntKind.max, IntKind.signed, IntKind.bits] at h
  omega
theorem int_ge {n : Int} (h : (Lit.int .i64 n).wf = true) : -9223372036854775808 ≤ n := by
  simp [Lit.wf, IntKind.min, IntKind.max, IntKind.signed, IntKind.bits] at h
  omega

theorem Try.cellsU8 : Try.prog.cellsOf 5 = 1 := by kernel_rfl
theorem open_bytesArg {H : Type} {enc : TypeId × Value → H} {W : World} {b0 base : Nat} {held : Bool} {v : Value} {d : DataW H} {p : List MemPlace} (hv : Value.okWide Try.prog W .any b0 43 v)
    (h : DataW.Trod enc Try.prog W base (fun _ => true) held 43 v d p) :
    ∃ (A : Option Addr) (c : Nat) (L : List Nat), v = .slice A L.length c ∧ L.length ≤ 9223372036854775807 ∧ Lies W B8 A L ∧ ∀ n ∈ L, n < 2 ^ 8 := by
  obtain ⟨a0, len, cap, rfl⟩ := okWide_slice Try.underlying43 hv
  obtain ⟨fuel, hf⟩ := h
  obtain ⟨A, c, L, e, hl, hL, hw⟩ := open_lies Try.underlying43 Try.underlying5 Try.cellsU8 (by simpa [Value.cells] using hf)
  have hb : ∀ n ∈ L, 0 ≤ n ∧ n < 2 ^ 8 := fun n hn => by
    have := hw n hn
    simp [Lit.wf, IntKind.min, IntKind.max, IntKind.signed, IntKind.bits] at this
    omega
  refine ⟨A, c, L.map Int.toNat, by simpa using e, by simpa using hl, lies_nat hL fun n hn => (hb n hn).1, ?_⟩
  intro n hn
  obtain ⟨y, hy, rfl⟩ := List.mem_map.1 hn
  have := hb y hy
  omega

theorem Try.cellsWords : Try.prog.cellsOf 22 = 1 := by kernel_rfl
theorem Try.cellsPacked : Try.prog.cellsOf 26 = 4 := by kernel_rfl
theorem open_packed {H : Type} {enc : TypeId × Value → H} {W : World} {b0 base : Nat} {held : Bool} {v : Value} {d : DataW H} {p : List MemPlace} (hv : Value.okWide Try.prog W .any b0 26 v)
    (h : DataW.Trod enc Try.prog W base (fun _ => true) held 26 v d p) :
    ∃ (P N M : Int) (A : Option Addr) (c : Nat) (L : List Nat), v = .agg #[.int .i64 P, .int .i64 N, .int .i64 M, .slice A L.length c] ∧ (Lit.int .i64 P).wf = true ∧ (Lit.int .i64 N).wf = true ∧ (Lit.int .i64 M).wf = true ∧ L.length ≤ 9223372036854775807 ∧ Lies W U A L ∧ ∀ n ∈ L, n < 2 ^ 64 := by
  obtain ⟨cs, rfl, hsz⟩ := okWide_struct Try.underlying26 hv
  obtain ⟨c0, c1, c2, c3, rfl⟩ := array4 (hsz.trans Try.cellsPacked)
  obtain ⟨fuel, hf⟩ := h
  obtain ⟨y0, y1, y2, n, _, _, h0, h1, h2⟩ := Go.Deep.trod_struct3 Try.underlying26 hf
  obtain ⟨z0, z1, m, _, _, h3, h4⟩ := trod_struct2 Try.underlying24 h2
  simp [Value.cells, Try.cellsInt, Try.cellsBits, Try.cellsWords] at h0 h1 h3 h4
  obtain ⟨P, e0, _, w0⟩ := DataW.trod_int Try.underlying3 h0
  obtain ⟨N, e1, _, w1⟩ := DataW.trod_int Try.underlying3 h1
  obtain ⟨M, e2, _, w2⟩ := DataW.trod_int Try.underlying3 h3
  obtain ⟨A, c, L, rfl, hl, hL, hw⟩ := open_words Try.underlying22 Try.underlying106 Try.cellsU64 h4
  simp at e0 e1 e2
  subst e0 e1 e2
  exact ⟨P, N, M, A, c, L, rfl, w0, w1, w2, hl, hL, hw⟩

end Go.Proofs.Ytlbnngolcoefdaa
