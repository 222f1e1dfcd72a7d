/- Proved: laws.FnExactSparseList returns true at every sparse value (six numbers and two lists of words) that can be read, and leaves its arguments as they were. No condition. -/
import Derived.Test.YtlbnngolcoefdaaLawSparseList
import Derived.Test.YtlbnngolcoefdaaOpen3
namespace Go.Proofs.Ytlbnngolcoefdaa
open Go.ChangeShapes Go.WideShapes Go.ChangeAt Go.RowKit Go.Joins
set_option maxRecDepth 100000

set_option maxHeartbeats 400000 in
theorem lawSparseList_big (V0 N0 P0 M0 K0 H0 : Int) (A0 : Option Addr) (m0 c0 : Nat) (B0 : Option Addr) (m1 d0 : Nat) (w : World) (hm : m0 ≤ 9223372036854775807) (hm1 : m1 ≤ 9223372036854775807) (hbig : 1048576 < m0 + m1) :
    Calls Try.prog 3 #[SP V0 N0 P0 M0 K0 (.slice A0 m0 c0) H0 (.slice B0 m1 d0)] w fun e w' => e = .returned (.bool true) ∧ Below w.heap.size w w' := by
  have C := Lib.hid fun W => szSparse_big V0 N0 P0 M0 K0 H0 A0 B0 m0 c0 m1 d0 W hm hm1 hbig
  go_enter Try.func3, Try.ntmps3
  go_wp2_with fail
  refine (C.out _).mono ?_
  rintro e w1 ⟨rfl, hb⟩
  have HB := Lib.hid hb
  clear hb
  go_wp2
  go_ret
  exact ⟨rfl, below_then (by go_grown) HB.out⟩

set_option maxRecDepth 100000 in
theorem fnExactSparseList_lifted (os : Os) (started : os.Started) (H : Type) (enc : TypeId × Value → H) :
    ReturnsInHanded {} Try.checked os 3 .any (Rows.fnExactSparseListSpec.pre6 enc Try.prog Try.f3 Rows.fnExactSparseListRow.domain false) (Rows.fnExactSparseListSpec.post enc Try.prog Try.f3 false true false false) := by
  refine law_lifted (C := Try.checked) Try.own started (by kernel_rfl) Try.func3
    (ChangeSpec.witness6 (enc := enc) (C := Try.checked) false ⟨#[], #[.agg #[.int .i64 0, .int .i64 0, .int .i64 0, .int .i64 0, .int .i64 0, .slice none 0 0, .int .i64 0, .slice none 0 0]], []⟩ 8 (by kernel_rfl) (by kernel_rfl) (by kernel_rfl) (by kernel_rfl))
    Try.laidOut (by kernel_rfl) rfl rfl Try.underlying4 ?_ ?_
  · intro H ds hds
    match ds, hds with
    | [d1], _ => exact ⟨rfl, rfl, rfl⟩
  · intro W base args ds p hval0 hA0
    have hval : ∀ (j : Nat) t v, Try.f3.params[j]? = some t → args[j]? = some v → Value.okWide Try.prog W .any base t v := hval0
    have hA : DataW.TrodAll enc Try.prog W 0 (fun _ => true) true Try.f3.params.toList args.toList ds p := hA0
    rw [Try.params3] at hA hval
    obtain ⟨v0, d0, rfl, rfl, h0⟩ := trodAll_one hA
    obtain ⟨V0, N0, P0, M0, K0, H0, A0, c0, L0, B0, d0', K1, rfl, hwN, hl0, hL0, hw0, hl1, hL1, hw1⟩ := open_sparse (hval 0 28 v0 rfl rfl) h0
    by_cases hb : 1048576 < L0.length + K1.length
    · exact lawSparseList_big V0 N0 P0 M0 K0 H0 A0 L0.length c0 B0 K1.length d0' W hl0 hl1 hb
    · exact lawSparseList V0 N0 P0 M0 K0 H0 A0 c0 L0 B0 d0' K1 W hL0 hw0 hL1 hw1 (int_le hwN) (by omega)

theorem fnExactSparseList_holds : Rows.FnExactSparseListSaid :=
  OpenClaim.holds_of_wide 3 Try.f3 rfl rfl rfl rfl rfl rfl rfl ⟨rfl, rfl, rfl, rfl, rfl⟩ rfl rfl rfl rfl rfl (by kernel_rfl) Try.func3 (by kernel_rfl)
    (of_decide_eq_true (by kernel_rfl)) (by unfold Func.isWrapper; first | (rw [if_pos (by decide +kernel)]; kernel_rfl) | (rw [if_neg (by decide +kernel)]; exact ⟨rfl, rfl⟩))
    (fun os started H enc _ => fnExactSparseList_lifted os started H enc)

end Go.Proofs.Ytlbnngolcoefdaa
