/- Proved: laws.FnExactPackList returns true at every packed value (three numbers and a list of words) that can be read, and leaves its arguments as they were. No condition. -/
import Derived.Test.YticndfdicalmcaaLawPackList
import Derived.Test.YticndfdicalmcaaOpen2
namespace Go.Proofs.Yticndfdicalmcaa
open Go.ChangeShapes Go.WideShapes Go.ChangeAt Go.RowKit Go.Joins

set_option maxHeartbeats 400000 in
theorem lawPackList_big (P0 N0 M0 : Int) (A0 : Option Addr) (m0 c0 : Nat) (w : World) (hm : m0 ≤ 9223372036854775807) (hbig : 1048576 < m0) :
    Calls Try.prog 9 #[.agg #[.int .i64 P0, .int .i64 N0, .int .i64 M0, .slice A0 m0 c0]] w fun e w' => e = .returned (.bool true) ∧ Below w.heap.size w w' := by
  have c1 := fun W => szPacked_any P0 N0 M0 A0 m0 c0 1048576 W hm (by omega) (by omega)
  simp only [if_pos (show (1048576 : Int) < (m0 : Int) by omega)] at c1
  have C := Lib.hid c1
  clear c1
  go_enter Try.func9, Try.ntmps9
  go_wp2_with fail
  refine (C.out _).mono ?_
  rintro e w1 ⟨rfl, hb⟩
  have HB := Lib.hid hb
  clear hb
  go_wp2
  go_ret
  exact ⟨rfl, below_then (by go_grown) HB.out⟩

set_option maxRecDepth 100000 in
theorem fnExactPackList_lifted (os : Os) (started : os.Started) (H : Type) (enc : TypeId × Value → H) :
    ReturnsInHanded {} Try.checked os 9 .any (Rows.fnExactPackListSpec.pre6 enc Try.prog Try.f9 Rows.fnExactPackListRow.domain false) (Rows.fnExactPackListSpec.post enc Try.prog Try.f9 false true false false) := by
  refine law_lifted (C := Try.checked) Try.own started (by kernel_rfl) Try.func9
    (ChangeSpec.witness6 (enc := enc) (C := Try.checked) false ⟨#[], #[.agg #[.int .i64 0, .int .i64 0, .int .i64 0, .slice none 0 0]], []⟩ 8 (by kernel_rfl) (by kernel_rfl) (by kernel_rfl) (by kernel_rfl))
    Try.laidOut (by kernel_rfl) rfl rfl Try.underlying4 ?_ ?_
  · intro H ds hds
    match ds, hds with
    | [d1], _ => exact ⟨rfl, rfl, rfl⟩
  · intro W base args ds p hval0 hA0
    have hval : ∀ (j : Nat) t v, Try.f9.params[j]? = some t → args[j]? = some v → Value.okWide Try.prog W .any base t v := hval0
    have hA : DataW.TrodAll enc Try.prog W 0 (fun _ => true) true Try.f9.params.toList args.toList ds p := hA0
    rw [Try.params9] at hA hval
    obtain ⟨v0, d0, rfl, rfl, h0⟩ := trodAll_one hA
    obtain ⟨P0, N0, M0, A0, c0, L0, rfl, qP0, qN0, qM0, hl0, hL0, hw0⟩ := open_packed (hval 0 56 v0 rfl rfl) h0
    by_cases hb : 1048576 < L0.length
    · exact lawPackList_big P0 N0 M0 A0 L0.length c0 W hl0 hb
    · exact lawPackList P0 N0 M0 A0 c0 L0 W hL0 hw0 (by omega)

theorem fnExactPackList_holds : Rows.FnExactPackListSaid :=
  OpenClaim.holds_of_wide 9 Try.f9 rfl rfl rfl rfl rfl rfl rfl ⟨rfl, rfl, rfl, rfl, rfl⟩ rfl rfl rfl rfl rfl (by kernel_rfl) Try.func9 (by kernel_rfl)
    (of_decide_eq_true (by kernel_rfl)) (by unfold Func.isWrapper; first | (rw [if_pos (by decide +kernel)]; kernel_rfl) | (rw [if_neg (by decide +kernel)]; exact ⟨rfl, rfl⟩))
    (fun os started H enc _ => fnExactPackList_lifted os started H enc)

end Go.Proofs.Yticndfdicalmcaa
