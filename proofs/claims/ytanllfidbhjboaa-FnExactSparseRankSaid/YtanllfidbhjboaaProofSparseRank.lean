/- Proved: laws.FnExactSparseRank returns true at every sparse value (six numbers and two lists of words) and every number that can be read, and leaves its arguments as they were. No condition. -/
import Derived.Test.YtanllfidbhjboaaLawSparseRank
import Derived.Test.YtanllfidbhjboaaOpen3
namespace Go.Proofs.Ytanllfidbhjboaa
open Go.ChangeShapes Go.WideShapes Go.ChangeAt Go.RowKit Go.Joins
set_option maxRecDepth 100000

set_option maxHeartbeats 400000 in
theorem lawSparseRank_big (V0 N0 P0 M0 K0 H0 : Int) (A0 : Option Addr) (m0 c0 : Nat) (B0 : Option Addr) (m1 d0 : Nat) (n1 : Int) (w : World) (hm : m0 ≤ 9223372036854775807) (hm1 : m1 ≤ 9223372036854775807) (hbig : 1048576 < m0 + m1) :
    Calls Try.prog 6 #[SP V0 N0 P0 M0 K0 (.slice A0 m0 c0) H0 (.slice B0 m1 d0), .int .i64 n1] w fun e w' => e = .returned (.bool true) ∧ Below w.heap.size w w' := by
  have C := Lib.hid fun W => szSparse_big V0 N0 P0 M0 K0 H0 A0 B0 m0 c0 m1 d0 W hm hm1 hbig
  go_enter Try.func6, Try.ntmps6
  go_wp2_with fail
  refine (C.out _).mono ?_
  rintro e w1 ⟨rfl, hb⟩
  have HB := Lib.hid hb
  clear hb
  go_wp2
  go_ret
  exact ⟨rfl, below_then (by go_grown) HB.out⟩

set_option maxRecDepth 100000 in
theorem fnExactSparseRank_lifted (os : Os) (started : os.Started) (H : Type) (enc : TypeId × Value → H) :
    ReturnsInHanded {} Try.checked os 6 .any (Rows.fnExactSparseRankSpec.pre6 enc Try.prog Try.f6 Rows.fnExactSparseRankRow.domain false) (Rows.fnExactSparseRankSpec.post enc Try.prog Try.f6 false true false false) := by
  refine law_lifted (C := Try.checked) Try.own started (by kernel_rfl) Try.func6
    (ChangeSpec.witness6 (enc := enc) (C := Try.checked) false ⟨#[], #[.agg #[.int .i64 0, .int .i64 0, .int .i64 0, .int .i64 0, .int .i64 0, .slice none 0 0, .int .i64 0, .slice none 0 0], .int .i64 0], []⟩ 8 (by kernel_rfl) (by kernel_rfl) (by kernel_rfl) (by kernel_rfl))
    Try.laidOut (by kernel_rfl) rfl rfl Try.underlying4 ?_ ?_
  · intro H ds hds
    match ds, hds with
    | [d1, d2], _ => exact ⟨rfl, rfl, rfl⟩
  · intro W base args ds p hval0 hA0
    have hval : ∀ (j : Nat) t v, Try.f6.params[j]? = some t → args[j]? = some v → Value.okWide Try.prog W .any base t v := hval0
    have hA : DataW.TrodAll enc Try.prog W 0 (fun _ => true) true Try.f6.params.toList args.toList ds p := hA0
    rw [Try.params6] at hA hval
    obtain ⟨v0, v1, d0, d1, p0, p1, rfl, rfl, rfl, h0, h1⟩ := trodAll_two hA
    obtain ⟨V0, N0, P0, M0, K0, H0, A0, c0, L0, B0, d0', K1, rfl, hwN, hl0, hL0, hw0, hl1, hL1, hw1⟩ := open_sparse (hval 0 42 v0 rfl rfl) h0
    obtain ⟨n1, rfl, rfl, rfl, qn1⟩ := open_int Try.underlying3 (hval 1 3 v1 rfl rfl) h1
    by_cases hb : 1048576 < L0.length + K1.length
    · exact lawSparseRank_big V0 N0 P0 M0 K0 H0 A0 L0.length c0 B0 K1.length d0' n1 W hl0 hl1 hb
    · exact lawSparseRank V0 N0 P0 M0 K0 H0 A0 c0 L0 B0 d0' K1 n1 W hL0 hw0 hL1 hw1 (int_le hwN) (by omega)

theorem fnExactSparseRank_holds : Rows.FnExactSparseRankSaid :=
  OpenClaim.holds_of_wide 6 Try.f6 rfl rfl rfl rfl rfl rfl rfl ⟨rfl, rfl, rfl, rfl, rfl⟩ rfl rfl rfl rfl rfl (by kernel_rfl) Try.func6 (by kernel_rfl)
    (of_decide_eq_true (by kernel_rfl)) (by unfold Func.isWrapper; first | (rw [if_pos (by decide +kernel)]; kernel_rfl) | (rw [if_neg (by decide +kernel)]; exact ⟨rfl, rfl⟩))
    (fun os started H enc _ => fnExactSparseRank_lifted os started H enc)

end Go.Proofs.Ytanllfidbhjboaa
