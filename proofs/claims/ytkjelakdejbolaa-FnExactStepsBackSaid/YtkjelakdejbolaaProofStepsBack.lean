/- Proved: laws.FnExactStepsBack returns true at every list of numbers and every two numbers that can be read, and leaves its arguments as they were. No condition. -/
import Derived.Test.YtkjelakdejbolaaLawStepsBack
import Derived.Test.YtkjelakdejbolaaOpen2
namespace Go.Proofs.Ytkjelakdejbolaa
open Go.ChangeShapes Go.WideShapes Go.ChangeAt Go.RowKit Go.Joins

set_option maxHeartbeats 400000 in
theorem lawStepsBack_big0 (A0 : Option Addr) (m0 c0 : Nat) (n1 : Int) (n2 : Int) (w : World) (hbig : 1048576 < m0) :
    Calls Try.prog 12 #[.slice A0 m0 c0, .int .i64 n1, .int .i64 n2] w fun e w' => e = .returned (.bool true) ∧ Below w.heap.size w w' := by
  go_enter Try.func12, Try.ntmps12
  go_wp2
  go_ret
  exact ⟨rfl, Below.refl _ _⟩

set_option maxRecDepth 100000 in
theorem fnExactStepsBack_lifted (os : Os) (started : os.Started) (H : Type) (enc : TypeId × Value → H) :
    ReturnsInHanded {} Try.checked os 12 .any (Rows.fnExactStepsBackSpec.pre6 enc Try.prog Try.f12 Rows.fnExactStepsBackRow.domain false) (Rows.fnExactStepsBackSpec.post enc Try.prog Try.f12 false true false false) := by
  refine law_lifted (C := Try.checked) Try.own started (by kernel_rfl) Try.func12
    (ChangeSpec.witness6 (enc := enc) (C := Try.checked) false ⟨#[], #[.slice none 0 0, .int .i64 0, .int .i64 0], []⟩ 8 (by kernel_rfl) (by kernel_rfl) (by kernel_rfl) (by kernel_rfl))
    Try.laidOut (by kernel_rfl) rfl rfl Try.underlying4 ?_ ?_
  · intro H ds hds
    match ds, hds with
    | [d1, d2, d3], _ => exact ⟨rfl, rfl, rfl⟩
  · intro W base args ds p hval0 hA0
    have hval : ∀ (j : Nat) t v, Try.f12.params[j]? = some t → args[j]? = some v → Value.okWide Try.prog W .any base t v := hval0
    have hA : DataW.TrodAll enc Try.prog W 0 (fun _ => true) true Try.f12.params.toList args.toList ds p := hA0
    rw [Try.params12] at hA hval
    obtain ⟨v0, v1, v2, d0, d1, d2, p0, p1, p2, rfl, rfl, rfl, h0, h1, h2⟩ := trodAll_three hA
    obtain ⟨A0, c0, L0, rfl, hl0, hL0, hw0⟩ := open_intsArg (hval 0 25 v0 rfl rfl) h0
    obtain ⟨n1, rfl, rfl, rfl, qn1⟩ := open_int Try.underlying3 (hval 1 3 v1 rfl rfl) h1
    obtain ⟨n2, rfl, rfl, rfl, qn2⟩ := open_int Try.underlying3 (hval 2 3 v2 rfl rfl) h2
    by_cases hb0 : 1048576 < L0.length
    · exact lawStepsBack_big0 A0 L0.length c0 n1 n2 W hb0
    exact lawStepsBack A0 c0 L0 n1 n2 W hL0 (by omega)

theorem fnExactStepsBack_holds : Rows.FnExactStepsBackSaid :=
  OpenClaim.holds_of_wide 12 Try.f12 rfl rfl rfl rfl rfl rfl rfl ⟨rfl, rfl, rfl, rfl, rfl⟩ rfl rfl rfl rfl rfl (by kernel_rfl) Try.func12 (by kernel_rfl)
    (of_decide_eq_true (by kernel_rfl)) (by unfold Func.isWrapper; first | (rw [if_pos (by decide +kernel)]; kernel_rfl) | (rw [if_neg (by decide +kernel)]; exact ⟨rfl, rfl⟩))
    (fun os started H enc _ => fnExactStepsBack_lifted os started H enc)

end Go.Proofs.Ytkjelakdejbolaa
