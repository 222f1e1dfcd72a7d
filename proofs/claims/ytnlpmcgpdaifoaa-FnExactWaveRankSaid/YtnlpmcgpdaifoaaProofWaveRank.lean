/- Proved: laws.FnExactWaveRank returns true at every wave and two numbers that can be read, and leaves its arguments as they were. No condition. -/
import Derived.Test.YtnlpmcgpdaifoaaLawWaveRank
import Derived.Test.YtnlpmcgpdaifoaaOpenW
import Derived.Carry
namespace Go.Proofs.Ytnlpmcgpdaifoaa
open Go.ChangeShapes Go.WideShapes Go.ChangeAt Go.RowKit Go.Joins

set_option maxRecDepth 100000 in
theorem fnExactWaveRank_lifted (os : Os) (started : os.Started) (H : Type) (enc : TypeId × Value → H) :
    ReturnsInHanded {} Try.checked os 8 .any (Rows.fnExactWaveRankSpec.pre6 enc Try.prog Try.f8 Rows.fnExactWaveRankRow.domain false) (Rows.fnExactWaveRankSpec.post enc Try.prog Try.f8 false true false false) := by
  refine law_lifted (C := Try.checked) Try.own started (by kernel_rfl) Try.func8
    (ChangeSpec.witness6 (enc := enc) (C := Try.checked) false ⟨#[], #[.agg #[.int .i64 0, .slice none 0 0, .slice none 0 0], .int .i64 0, .int .i64 0], []⟩ 8 (by kernel_rfl) (by kernel_rfl) (by kernel_rfl) (by kernel_rfl))
    Try.laidOut (by kernel_rfl) rfl rfl Try.underlying4 ?_ ?_
  · intro H ds hds
    match ds, hds with
    | [d1, d2, d3], _ => exact ⟨rfl, rfl, rfl⟩
  · intro W base args ds p hval0 hA0
    have hval : ∀ (j : Nat) t v, Try.f8.params[j]? = some t → args[j]? = some v → Value.okWide Try.prog W .any base t v := hval0
    have hA : DataW.TrodAll enc Try.prog W 0 (fun _ => true) true Try.f8.params.toList args.toList ds p := hA0
    rw [Try.params8] at hA hval
    obtain ⟨v0, v1, v2, d0, d1, d2, p0, p1, p2, rfl, rfl, rfl, h0, h1, h2⟩ := trodAll_three hA
    obtain ⟨N, ZA, zc, Z, LA, lc, P, rfl, hz, hZ, hr, hP, hL, hp⟩ := open_wave (hval 0 42 v0 rfl rfl) h0
    obtain ⟨x, rfl, rfl, rfl, qx⟩ := open_int Try.underlying3 (hval 1 3 v1 rfl rfl) h1
    obtain ⟨i, rfl, rfl, rfl, qi⟩ := open_int Try.underlying3 (hval 2 3 v2 rfl rfl) h2
    by_cases hb : 1048576 < Z.length + totL P
    · exact lawWaveRank_big N ZA zc Z LA lc P x i W hL hz hP hp hb
    · exact lawWaveRank N ZA zc Z LA lc P x i W hZ hr hL (by omega)

theorem fnExactWaveRank_holds : Rows.FnExactWaveRankSaid :=
  OpenClaim.holds_of_wide 8 Try.f8 rfl rfl rfl rfl rfl rfl rfl ⟨rfl, rfl, rfl, rfl, rfl⟩ rfl rfl rfl rfl rfl (by kernel_rfl) Try.func8 (by kernel_rfl)
    (of_decide_eq_true (by kernel_rfl)) (by unfold Func.isWrapper; first | (rw [if_pos (by decide +kernel)]; kernel_rfl) | (rw [if_neg (by decide +kernel)]; exact ⟨rfl, rfl⟩))
    (fun os started H enc _ => fnExactWaveRank_lifted os started H enc)

end Go.Proofs.Ytnlpmcgpdaifoaa
