/- Proved: laws.FnBwtBack returns true at every list of bytes that can be read, and leaves it as it was. No condition. -/
import Derived.Test.YtkjelakdejbolaaLawBwtBack
import Derived.Test.YtkjelakdejbolaaOpen2
namespace Go.Proofs.Ytkjelakdejbolaa
open Go.ChangeShapes Go.WideShapes Go.ChangeAt Go.RowKit Go.Joins
set_option maxRecDepth 100000

set_option maxRecDepth 100000 in
theorem fnBwtBack_lifted (os : Os) (started : os.Started) (H : Type) (enc : TypeId × Value → H) :
    ReturnsInHanded {} Try.checked os 3 .any (Rows.fnBwtBackSpec.pre6 enc Try.prog Try.f3 Rows.fnBwtBackRow.domain false) (Rows.fnBwtBackSpec.post enc Try.prog Try.f3 false true false false) := by
  refine law_lifted (C := Try.checked) Try.own started (by kernel_rfl) Try.func3
    (ChangeSpec.witness6 (enc := enc) (C := Try.checked) false ⟨#[], #[.slice none 0 0], []⟩ 8 (by kernel_rfl) (by kernel_rfl) (by kernel_rfl) (by kernel_rfl))
    Try.laidOut (by kernel_rfl) rfl rfl Try.underlying4 ?_ ?_
  · intro H ds hds
    match ds, hds with
    | [d1], _ => exact ⟨rfl, rfl, rfl⟩
  · intro W base args ds p hval0 hA0
    have hval : ∀ (j : Nat) t v, Try.f3.params[j]? = some t → args[j]? = some v → Value.okWide Try.prog W .any base t v := hval0
    have hA : DataW.TrodAll enc Try.prog W 0 (fun _ => true) true Try.f3.params.toList args.toList ds p := hA0
    rw [Try.params3] at hA hval
    obtain ⟨v0, d0, rfl, rfl, h0⟩ := trodAll_one hA
    obtain ⟨A0, c0, D0, rfl, hl0, hD0, hw0⟩ := open_bytesArg (hval 0 22 v0 rfl rfl) h0
    by_cases hb : 1048576 < D0.length
    · exact lawBwtBack_big A0 D0.length c0 W hb
    · exact lawBwtBack A0 c0 D0 W hD0 hw0 (by omega)

theorem fnBwtBack_holds : Rows.FnBwtBackSaid :=
  OpenClaim.holds_of_wide 3 Try.f3 rfl rfl rfl rfl rfl rfl rfl ⟨rfl, rfl, rfl, rfl, rfl⟩ rfl rfl rfl rfl rfl (by kernel_rfl) Try.func3 (by kernel_rfl)
    (of_decide_eq_true (by kernel_rfl)) (by unfold Func.isWrapper; first | (rw [if_pos (by decide +kernel)]; kernel_rfl) | (rw [if_neg (by decide +kernel)]; exact ⟨rfl, rfl⟩))
    (fun os started H enc _ => fnBwtBack_lifted os started H enc)

end Go.Proofs.Ytkjelakdejbolaa
