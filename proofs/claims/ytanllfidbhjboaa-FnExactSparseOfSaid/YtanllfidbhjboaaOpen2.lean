/- How more of this seat's arguments are opened: numbers with their bounds, packed integers, bytes. -/
import Derived.Test.YtanllfidbhjboaaOpen1
namespace Go.Proofs.Ytanllfidbhjboaa
open Go.ChangeShapes Go.WideShapes Go.ChangeAt Go.RowKit Go.Joins
set_option maxRecDepth 100000

theorem int_le {n : Int} (h : (Lit.int .i64 n).wf = true) : n ≤ 9223372036854775807 := by
  simp [Lit.wf, IntKind.min, IntKind.max, IntKind.signed, IntKind.bits] at h
  omega
theorem int_ge {n : Int} (h : (Lit.int .i64 n).wf = true) : -9223372036854775808 ≤ n := by
  simp [Lit.wf, IntKind.min, IntKind.max, IntKind.signed, IntKind.bits] at h
  omega

theorem Try.cellsWords : Try.prog.cellsOf 23 = 1 := by kernel_rfl
theorem Try.cellsPacked : Try.prog.cellsOf 40 = 4 := by kernel_rfl
theorem open_packed {H : Type} {enc : TypeId × Value → H} {W : World} {b0 base : Nat} {held : Bool} {v : Value} {d : DataW H} {p : List MemPlace} (hv : Value.okWide Try.prog W .any b0 40 v)
    (h : DataW.Trod enc Try.prog W base (fun _ => true) held 40 v d p) :
    ∃ (P N M : Int) (A : Option Addr) (c : Nat) (L : List Nat), v = .agg #[.int .i64 P, .int .i64 N, .int .i64 M, .slice A L.length c] ∧ (Lit.int .i64 P).wf = true ∧ (Lit.int .i64 N).wf = true ∧ (Lit.int .i64 M).wf = true ∧ L.length ≤ 9223372036854775807 ∧ Lies W U A L ∧ ∀ n ∈ L, n < 2 ^ 64 := by
  obtain ⟨cs, rfl, hsz⟩ := okWide_struct Try.underlying40 hv
  obtain ⟨c0, c1, c2, c3, rfl⟩ := array4 (hsz.trans Try.cellsPacked)
  obtain ⟨fuel, hf⟩ := h
  obtain ⟨y0, y1, y2, n, _, _, h0, h1, h2⟩ := Go.Deep.trod_struct3 Try.underlying40 hf
  obtain ⟨z0, z1, m, _, _, h3, h4⟩ := trod_struct2 Try.underlying38 h2
  simp [Value.cells, Try.cellsInt, Try.cellsBits, Try.cellsWords] at h0 h1 h3 h4
  obtain ⟨P, e0, _, w0⟩ := DataW.trod_int Try.underlying3 h0
  obtain ⟨N, e1, _, w1⟩ := DataW.trod_int Try.underlying3 h1
  obtain ⟨M, e2, _, w2⟩ := DataW.trod_int Try.underlying3 h3
  obtain ⟨A, c, L, rfl, hl, hL, hw⟩ := open_words Try.underlying23 Try.underlying75 Try.cellsU64 h4
  simp at e0 e1 e2
  subst e0 e1 e2
  exact ⟨P, N, M, A, c, L, rfl, w0, w1, w2, hl, hL, hw⟩

end Go.Proofs.Ytanllfidbhjboaa
