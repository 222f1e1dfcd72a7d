/- Proved: laws.FnExactBitsFlip returns true at every bit vector (a number and a list of words) that can be read, and leaves its arguments as they were. No condition. -/
import Derived.Test.YtoiiiidijpenfaaLawFlip
import Derived.Test.YtoiiiidijpenfaaOpen1
namespace Go.Proofs.Ytoiiiidijpenfaa
open Go.ChangeShapes Go.WideShapes Go.ChangeAt Go.RowKit Go.Joins

set_option maxHeartbeats 400000 in
theorem lawFlip_big0 (N0 : Int) (A0 : Option Addr) (m0 c0 : Nat) (w : World) (hm0 : m0 ≤ 9223372036854775807) (hbig : 1048576 < m0) :
    Calls Try.prog 10 #[.agg #[.int .i64 N0, .slice A0 m0 c0]] w fun e w' => e = .returned (.bool true) ∧ Below w.heap.size w w' := by
  go_enter Try.func10, Try.ntmps10
  have sc : Scene w w [] := Scene.start w
  go_wp2_with fail
  replace sc := sc.box 42 #[.int .i64 N0, .slice A0 m0 c0]
  generalize (w.alloc (Obj.cells #[.int .i64 N0, .slice A0 m0 c0] 42)) = w1 at *
  have cz := szBits_any N0 A0 m0 c0 (1048576) w1 (by omega) (by omega) (by omega)
  rw [if_pos (show (1048576 : Int) < (m0 : Int) by omega)] at cz
  refine cz.mono ?_
  rintro e w2 ⟨rfl, hb⟩
  clear cz
  replace sc := sc.step hb
  clear hb
  have HB := Lib.hid sc.below
  clear sc
  go_wp2
  go_ret
  exact ⟨rfl, HB.out⟩

set_option maxRecDepth 100000 in
theorem fnExactBitsFlip_lifted (os : Os) (started : os.Started) (H : Type) (enc : TypeId × Value → H) :
    ReturnsInHanded {} Try.checked os 10 .any (Rows.fnExactBitsFlipSpec.pre6 enc Try.prog Try.f10 Rows.fnExactBitsFlipRow.domain false) (Rows.fnExactBitsFlipSpec.post enc Try.prog Try.f10 false true false false) := by
  refine law_lifted (C := Try.checked) Try.own started (by kernel_rfl) Try.func10
    (ChangeSpec.witness6 (enc := enc) (C := Try.checked) false ⟨#[], #[.agg #[.int .i64 0, .slice none 0 0]], []⟩ 8 (by kernel_rfl) (by kernel_rfl) (by kernel_rfl) (by kernel_rfl))
    Try.laidOut (by kernel_rfl) rfl rfl Try.underlying4 ?_ ?_
  · intro H ds hds
    match ds, hds with
    | [d1], _ => exact ⟨rfl, rfl, rfl⟩
  · intro W base args ds p hval0 hA0
    have hval : ∀ (j : Nat) t v, Try.f10.params[j]? = some t → args[j]? = some v → Value.okWide Try.prog W .any base t v := hval0
    have hA : DataW.TrodAll enc Try.prog W 0 (fun _ => true) true Try.f10.params.toList args.toList ds p := hA0
    rw [Try.params10] at hA hval
    obtain ⟨v0, d0, rfl, rfl, h0⟩ := trodAll_one hA
    obtain ⟨N0, A0, c0, L0, rfl, wN0, hl0, hL0, hw0⟩ := open_bits (hval 0 42 v0 rfl rfl) h0
    by_cases hb0 : 1048576 < L0.length
    · exact lawFlip_big0 N0 A0 L0.length c0 W hl0 hb0
    · exact lawFlip N0 A0 c0 L0 W hL0 hw0 (by omega)

theorem fnExactBitsFlip_holds : Rows.FnExactBitsFlipSaid :=
  OpenClaim.holds_of_wide 10 Try.f10 rfl rfl rfl rfl rfl rfl rfl ⟨rfl, rfl, rfl, rfl, rfl⟩ rfl rfl rfl rfl rfl (by kernel_rfl) Try.func10 (by kernel_rfl)
    (of_decide_eq_true (by kernel_rfl)) (by unfold Func.isWrapper; first | (rw [if_pos (by decide +kernel)]; kernel_rfl) | (rw [if_neg (by decide +kernel)]; exact ⟨rfl, rfl⟩))
    (fun os started H enc _ => fnExactBitsFlip_lifted os started H enc)

end Go.Proofs.Ytoiiiidijpenfaa
