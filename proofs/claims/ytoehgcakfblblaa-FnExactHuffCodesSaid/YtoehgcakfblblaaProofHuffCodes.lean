/- Proved: laws.FnExactHuffCodes returns true at every list of numbers that can be read, and leaves its arguments as they were. No condition. -/
import Derived.Test.YtoehgcakfblblaaLawHuffCodes
import Derived.Test.YtoehgcakfblblaaOpen2
namespace Go.Proofs.Ytoehgcakfblblaa
open Go.ChangeShapes Go.WideShapes Go.ChangeAt Go.RowKit Go.Joins

set_option maxHeartbeats 400000 in
theorem lawHuffCodes_big0 (A0 : Option Addr) (m0 c0 : Nat) (w : World) (hbig : 1048576 < m0) :
    Calls Try.prog 10 #[.slice A0 m0 c0] w fun e w' => e = .returned (.bool true) ∧ Below w.heap.size w w' := by
  go_enter Try.func10, Try.ntmps10
  go_wp2
  go_ret
  exact ⟨rfl, Below.refl _ _⟩

set_option maxRecDepth 100000 in
theorem fnExactHuffCodes_lifted (os : Os) (started : os.Started) (H : Type) (enc : TypeId × Value → H) :
    ReturnsInHanded {} Try.checked os 10 .any (Rows.fnExactHuffCodesSpec.pre6 enc Try.prog Try.f10 Rows.fnExactHuffCodesRow.domain false) (Rows.fnExactHuffCodesSpec.post enc Try.prog Try.f10 false true false false) := by
  refine law_lifted (C := Try.checked) Try.own started (by kernel_rfl) Try.func10
    (ChangeSpec.witness6 (enc := enc) (C := Try.checked) false ⟨#[], #[.slice none 0 0], []⟩ 8 (by kernel_rfl) (by kernel_rfl) (by kernel_rfl) (by kernel_rfl))
    Try.laidOut (by kernel_rfl) rfl rfl Try.underlying4 ?_ ?_
  · intro H ds hds
    match ds, hds with
    | [d1], _ => exact ⟨rfl, rfl, rfl⟩
  · intro W base args ds p hval0 hA0
    have hval : ∀ (j : Nat) t v, Try.f10.params[j]? = some t → args[j]? = some v → Value.okWide Try.prog W .any base t v := hval0
    have hA : DataW.TrodAll enc Try.prog W 0 (fun _ => true) true Try.f10.params.toList args.toList ds p := hA0
    rw [Try.params10] at hA hval
    obtain ⟨v0, d0, rfl, rfl, h0⟩ := trodAll_one hA
    obtain ⟨A0, c0, L0, rfl, hl0, hL0, hw0⟩ := open_intsArg (hval 0 24 v0 rfl rfl) h0
    by_cases hb0 : 1048576 < L0.length
    · exact lawHuffCodes_big0 A0 L0.length c0 W hb0
    exact lawHuffCodes A0 c0 L0 W hL0 (by omega)

theorem fnExactHuffCodes_holds : Rows.FnExactHuffCodesSaid :=
  OpenClaim.holds_of_wide 10 Try.f10 rfl rfl rfl rfl rfl rfl rfl ⟨rfl, rfl, rfl, rfl, rfl⟩ rfl rfl rfl rfl rfl (by kernel_rfl) Try.func10 (by kernel_rfl)
    (of_decide_eq_true (by kernel_rfl)) (by unfold Func.isWrapper; first | (rw [if_pos (by decide +kernel)]; kernel_rfl) | (rw [if_neg (by decide +kernel)]; exact ⟨rfl, rfl⟩))
    (fun os started H enc _ => fnExactHuffCodes_lifted os started H enc)

end Go.Proofs.Ytoehgcakfblblaa
