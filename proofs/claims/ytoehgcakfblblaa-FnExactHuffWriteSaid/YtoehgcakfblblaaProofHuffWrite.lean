/- Proved: laws.FnExactHuffWrite returns true at every two lists of numbers that can be read, and leaves its arguments as they were. No condition. -/
import Derived.Test.YtoehgcakfblblaaLawHuffWrite
import Derived.Test.YtoehgcakfblblaaOpen2
namespace Go.Proofs.Ytoehgcakfblblaa
open Go.ChangeShapes Go.WideShapes Go.ChangeAt Go.RowKit Go.Joins

set_option maxHeartbeats 400000 in
theorem lawHuffWrite_big0 (A0 : Option Addr) (m0 c0 : Nat) (A1 : Option Addr) (m1 c1 : Nat) (w : World) (hbig : 1048576 < m0) :
    Calls Try.prog 12 #[.slice A0 m0 c0, .slice A1 m1 c1] w fun e w' => e = .returned (.bool true) ∧ Below w.heap.size w w' := by
  go_enter Try.func12, Try.ntmps12
  go_wp2
  go_ret
  exact ⟨rfl, Below.refl _ _⟩

set_option maxHeartbeats 400000 in
theorem lawHuffWrite_big1 (A0 : Option Addr) (m0 c0 : Nat) (A1 : Option Addr) (m1 c1 : Nat) (w : World) (hs0 : m0 ≤ 1048576) (hbig : 1048576 < m1) :
    Calls Try.prog 12 #[.slice A0 m0 c0, .slice A1 m1 c1] w fun e w' => e = .returned (.bool true) ∧ Below w.heap.size w w' := by
  have d0 : decide ((1048576 : Int) < (m0 : Int)) = false := by simp; omega
  go_enter Try.func12, Try.ntmps12
  go_wp2
  go_ret
  exact ⟨rfl, Below.refl _ _⟩

set_option maxRecDepth 100000 in
theorem fnExactHuffWrite_lifted (os : Os) (started : os.Started) (H : Type) (enc : TypeId × Value → H) :
    ReturnsInHanded {} Try.checked os 12 .any (Rows.fnExactHuffWriteSpec.pre6 enc Try.prog Try.f12 Rows.fnExactHuffWriteRow.domain false) (Rows.fnExactHuffWriteSpec.post enc Try.prog Try.f12 false true false false) := by
  refine law_lifted (C := Try.checked) Try.own started (by kernel_rfl) Try.func12
    (ChangeSpec.witness6 (enc := enc) (C := Try.checked) false ⟨#[], #[.slice none 0 0, .slice none 0 0], []⟩ 8 (by kernel_rfl) (by kernel_rfl) (by kernel_rfl) (by kernel_rfl))
    Try.laidOut (by kernel_rfl) rfl rfl Try.underlying4 ?_ ?_
  · intro H ds hds
    match ds, hds with
    | [d1, d2], _ => exact ⟨rfl, rfl, rfl⟩
  · intro W base args ds p hval0 hA0
    have hval : ∀ (j : Nat) t v, Try.f12.params[j]? = some t → args[j]? = some v → Value.okWide Try.prog W .any base t v := hval0
    have hA : DataW.TrodAll enc Try.prog W 0 (fun _ => true) true Try.f12.params.toList args.toList ds p := hA0
    rw [Try.params12] at hA hval
    obtain ⟨v0, v1, d0, d1, p0, p1, rfl, rfl, rfl, h0, h1⟩ := trodAll_two hA
    obtain ⟨A0, c0, L0, rfl, hl0, hL0, hw0⟩ := open_intsArg (hval 0 24 v0 rfl rfl) h0
    obtain ⟨A1, c1, L1, rfl, hl1, hL1, hw1⟩ := open_intsArg (hval 1 24 v1 rfl rfl) h1
    by_cases hb0 : 1048576 < L0.length
    · exact lawHuffWrite_big0 A0 L0.length c0 A1 L1.length c1 W hb0
    by_cases hb1 : 1048576 < L1.length
    · exact lawHuffWrite_big1 A0 L0.length c0 A1 L1.length c1 W (by omega) hb1
    exact lawHuffWrite A0 c0 L0 A1 c1 L1 W hL0 hL1 (by omega) (by omega)

theorem fnExactHuffWrite_holds : Rows.FnExactHuffWriteSaid :=
  OpenClaim.holds_of_wide 12 Try.f12 rfl rfl rfl rfl rfl rfl rfl ⟨rfl, rfl, rfl, rfl, rfl⟩ rfl rfl rfl rfl rfl (by kernel_rfl) Try.func12 (by kernel_rfl)
    (of_decide_eq_true (by kernel_rfl)) (by unfold Func.isWrapper; first | (rw [if_pos (by decide +kernel)]; kernel_rfl) | (rw [if_neg (by decide +kernel)]; exact ⟨rfl, rfl⟩))
    (fun os started H enc _ => fnExactHuffWrite_lifted os started H enc)

end Go.Proofs.Ytoehgcakfblblaa
