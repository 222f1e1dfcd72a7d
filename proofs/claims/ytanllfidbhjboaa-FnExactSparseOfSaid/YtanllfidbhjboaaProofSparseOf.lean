/- Proved: laws.FnExactSparseOf returns true at every list of numbers and every bound that can be read, and leaves its arguments as they were. No condition. -/
import Derived.Test.YtanllfidbhjboaaLawSparseOf
import Derived.Test.YtanllfidbhjboaaOpen2
namespace Go.Proofs.Ytanllfidbhjboaa
open Go.ChangeShapes Go.WideShapes Go.ChangeAt Go.RowKit Go.Joins
set_option maxRecDepth 100000

set_option maxHeartbeats 400000 in
theorem lawSparseOf_big (A0 : Option Addr) (m0 c0 : Nat) (n1 : Int) (w : World) (hm : m0 ≤ 9223372036854775807) (hbig : 1048576 < m0) :
    Calls Try.prog 3 #[.slice A0 m0 c0, .int .i64 n1] w fun e w' => e = .returned (.bool true) ∧ Below w.heap.size w w' := by
  go_enter Try.func3, Try.ntmps3
  go_wp2
  go_ret
  exact ⟨rfl, Below.refl _ _⟩

set_option maxRecDepth 100000 in
theorem fnExactSparseOf_lifted (os : Os) (started : os.Started) (H : Type) (enc : TypeId × Value → H) :
    ReturnsInHanded {} Try.checked os 3 .any (Rows.fnExactSparseOfSpec.pre6 enc Try.prog Try.f3 Rows.fnExactSparseOfRow.domain false) (Rows.fnExactSparseOfSpec.post enc Try.prog Try.f3 false true false false) := by
  refine law_lifted (C := Try.checked) Try.own started (by kernel_rfl) Try.func3
    (ChangeSpec.witness6 (enc := enc) (C := Try.checked) false ⟨#[], #[.slice none 0 0, .int .i64 0], []⟩ 8 (by kernel_rfl) (by kernel_rfl) (by kernel_rfl) (by kernel_rfl))
    Try.laidOut (by kernel_rfl) rfl rfl Try.underlying4 ?_ ?_
  · intro H ds hds
    match ds, hds with
    | [d1, d2], _ => exact ⟨rfl, rfl, rfl⟩
  · intro W base args ds p hval0 hA0
    have hval : ∀ (j : Nat) t v, Try.f3.params[j]? = some t → args[j]? = some v → Value.okWide Try.prog W .any base t v := hval0
    have hA : DataW.TrodAll enc Try.prog W 0 (fun _ => true) true Try.f3.params.toList args.toList ds p := hA0
    rw [Try.params3] at hA hval
    obtain ⟨v0, v1, d0, d1, p0, p1, rfl, rfl, rfl, h0, h1⟩ := trodAll_two hA
    obtain ⟨A0, c0, L0, rfl, hl0, hL0, hw0⟩ := open_intsArg (hval 0 22 v0 rfl rfl) h0
    obtain ⟨n1, rfl, rfl, rfl, qn1⟩ := open_int Try.underlying3 (hval 1 3 v1 rfl rfl) h1
    by_cases hb : 1048576 < L0.length
    · exact lawSparseOf_big A0 L0.length c0 n1 W hl0 hb
    · exact lawSparseOf A0 c0 L0 n1 W hL0 (by omega)

theorem fnExactSparseOf_holds : Rows.FnExactSparseOfSaid :=
  OpenClaim.holds_of_wide 3 Try.f3 rfl rfl rfl rfl rfl rfl rfl ⟨rfl, rfl, rfl, rfl, rfl⟩ rfl rfl rfl rfl rfl (by kernel_rfl) Try.func3 (by kernel_rfl)
    (of_decide_eq_true (by kernel_rfl)) (by unfold Func.isWrapper; first | (rw [if_pos (by decide +kernel)]; kernel_rfl) | (rw [if_neg (by decide +kernel)]; exact ⟨rfl, rfl⟩))
    (fun os started H enc _ => fnExactSparseOf_lifted os started H enc)

end Go.Proofs.Ytanllfidbhjboaa
