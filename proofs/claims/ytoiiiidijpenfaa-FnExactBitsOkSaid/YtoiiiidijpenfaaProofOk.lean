/- Proved: laws.FnExactBitsOk returns true at every bit vector (a number and a list of words) that can be read, and leaves its argument as it was. No condition. -/
import Derived.Test.YtoiiiidijpenfaaRows
import Derived.Test.YtoiiiidijpenfaaLawOk
import Derived.Test.YtoiiiidijpenfaaLift
namespace Go.Proofs.Ytoiiiidijpenfaa
open Go.ChangeShapes Go.WideShapes Go.ChangeAt Go.RowKit Go.Joins

theorem Try.own : ownKnob Try.prog.godebug = none := by kernel_rfl
theorem Try.laidOut : laidOutB Try.prog = true := by kernel_rfl
theorem Try.cellsBits : Try.prog.cellsOf 42 = 2 := by kernel_rfl
theorem Try.cellsU64 : Try.prog.cellsOf 55 = 1 := by kernel_rfl

theorem open_bits {H : Type} {enc : TypeId × Value → H} {W : World} {b0 base : Nat} {held : Bool} {v : Value} {d : DataW H} {p : List MemPlace} (hv : Value.okWide Try.prog W .any b0 42 v)
    (h : DataW.Trod enc Try.prog W base (fun _ => true) held 42 v d p) :
    ∃ (N : Int) (A : Option Addr) (c : Nat) (L : List Nat), v = .agg #[.int .i64 N, .slice A L.length c] ∧ (Lit.int .i64 N).wf = true ∧ L.length ≤ 9223372036854775807 ∧ Lies W U A L ∧ ∀ n ∈ L, n < 2 ^ 64 := by
  obtain ⟨c0, c1, y0, y1, m, rfl, rfl, rfl, hy0, hy1⟩ := open_agg2 Try.underlying42 (by kernel_rfl) Try.cellsBits hv h
  obtain ⟨a, e0, rfl, wa⟩ := DataW.trod_int Try.underlying3 hy0
  obtain ⟨A, c, L, rfl, hl, hL, hw⟩ := open_words Try.underlying24 Try.underlying55 Try.cellsU64 hy1
  simp at e0
  subst e0
  exact ⟨a, A, c, L, rfl, wa, hl, hL, hw⟩

set_option maxRecDepth 100000 in
theorem fnExactBitsOk_lifted (os : Os) (started : os.Started) (H : Type) (enc : TypeId × Value → H) :
    ReturnsInHanded {} Try.checked os 5 .any (Rows.fnExactBitsOkSpec.pre6 enc Try.prog Try.f5 Rows.fnExactBitsOkRow.domain false) (Rows.fnExactBitsOkSpec.post enc Try.prog Try.f5 false true false false) := by
  refine law_lifted (C := Try.checked) Try.own started (by kernel_rfl) Try.func5
    (ChangeSpec.witness6 (enc := enc) (C := Try.checked) false ⟨#[], #[.agg #[.int .i64 0, .slice none 0 0]], []⟩ 8 (by kernel_rfl) (by kernel_rfl) (by kernel_rfl) (by kernel_rfl))
    Try.laidOut (by kernel_rfl) rfl rfl Try.underlying4 ?_ ?_
  · intro H ds hds
    match ds, hds with
    | [d], _ => exact ⟨rfl, rfl, rfl⟩
  · intro W base args ds p hval0 hA0
    have hval : ∀ (j : Nat) t v, Try.f5.params[j]? = some t → args[j]? = some v → Value.okWide Try.prog W .any base t v := hval0
    have hA : DataW.TrodAll enc Try.prog W 0 (fun _ => true) true Try.f5.params.toList args.toList ds p := hA0
    rw [Try.params5] at hA hval
    obtain ⟨v0, d0, rfl, rfl, h0⟩ := trodAll_one hA
    obtain ⟨N, A, c, L, rfl, _, hl, hL, hw⟩ := open_bits (hval 0 42 v0 rfl rfl) h0
    by_cases hbig : L.length ≤ 1048576
    · exact lawOk N A c L W hL hbig hw
    · exact lawOk_big N A L.length c W hl (by omega)

theorem fnExactBitsOk_holds : Rows.FnExactBitsOkSaid :=
  OpenClaim.holds_of_wide 5 Try.f5 rfl rfl rfl rfl rfl rfl rfl ⟨rfl, rfl, rfl, rfl, rfl⟩ rfl rfl rfl rfl rfl (by kernel_rfl) Try.func5 (by kernel_rfl)
    (of_decide_eq_true (by kernel_rfl)) (by unfold Func.isWrapper; first | (rw [if_pos (by decide +kernel)]; kernel_rfl) | (rw [if_neg (by decide +kernel)]; exact ⟨rfl, rfl⟩))
    (fun os started H enc _ => fnExactBitsOk_lifted os started H enc)

end Go.Proofs.Ytoiiiidijpenfaa
