/- Proved: laws.FnExactWaveList returns true at every wave that can be read, and leaves its arguments as they were. No condition. -/
import Derived.Test.YtnlpmcgpdaifoaaLawWaveList
import Derived.Test.YtnlpmcgpdaifoaaOpenW
import Derived.Carry
namespace Go.Proofs.Ytnlpmcgpdaifoaa
open Go.ChangeShapes Go.WideShapes Go.ChangeAt Go.RowKit Go.Joins

set_option maxRecDepth 100000 in
theorem fnExactWaveList_lifted (os : Os) (started : os.Started) (H : Type) (enc : TypeId × Value → H) :
    ReturnsInHanded {} Try.checked os 6 .any (Rows.fnExactWaveListSpec.pre6 enc Try.prog Try.f6 Rows.fnExactWaveListRow.domain false) (Rows.fnExactWaveListSpec.post enc Try.prog Try.f6 false true false false) := by
  refine law_lifted (C := Try.checked) Try.own started (by kernel_rfl) Try.func6
    (ChangeSpec.witness6 (enc := enc) (C := Try.checked) false ⟨#[], #[.agg #[.int .i64 0, .slice none 0 0, .slice none 0 0]], []⟩ 8 (by kernel_rfl) (by kernel_rfl) (by kernel_rfl) (by kernel_rfl))
    Try.laidOut (by kernel_rfl) rfl rfl Try.underlying4 ?_ ?_
  · intro H ds hds
    match ds, hds with
    | [d1], _ => exact ⟨rfl, rfl, rfl⟩
  · intro W base args ds p hval0 hA0
    have hval : ∀ (j : Nat) t v, Try.f6.params[j]? = some t → args[j]? = some v → Value.okWide Try.prog W .any base t v := hval0
    have hA : DataW.TrodAll enc Try.prog W 0 (fun _ => true) true Try.f6.params.toList args.toList ds p := hA0
    rw [Try.params6] at hA hval
    obtain ⟨v0, d0, rfl, rfl, h0⟩ := trodAll_one hA
    obtain ⟨N, ZA, zc, Z, LA, lc, P, rfl, hz, hZ, hr, hP, hL, hp⟩ := open_wave (hval 0 42 v0 rfl rfl) h0
    by_cases hb : 1048576 < Z.length + totL P
    · exact lawWaveList_big N ZA zc Z LA lc P W hL hz hP hp hb
    · exact lawWaveList N ZA zc Z LA lc P W hZ hr hL (by omega)

theorem fnExactWaveList_holds : Rows.FnExactWaveListSaid :=
  OpenClaim.holds_of_wide 6 Try.f6 rfl rfl rfl rfl rfl rfl rfl ⟨rfl, rfl, rfl, rfl, rfl⟩ rfl rfl rfl rfl rfl (by kernel_rfl) Try.func6 (by kernel_rfl)
    (of_decide_eq_true (by kernel_rfl)) (by unfold Func.isWrapper; first | (rw [if_pos (by decide +kernel)]; kernel_rfl) | (rw [if_neg (by decide +kernel)]; exact ⟨rfl, rfl⟩))
    (fun os started H enc _ => fnExactWaveList_lifted os started H enc)

end Go.Proofs.Ytnlpmcgpdaifoaa
