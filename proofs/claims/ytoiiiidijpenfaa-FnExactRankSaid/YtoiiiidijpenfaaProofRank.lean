/- Proved: laws.FnExactRank returns true at every bit vector (a number and a list of words) and every two numbers that can be read, and leaves its arguments as they were. No condition. -/
import Derived.Test.YtoiiiidijpenfaaLawRank
import Derived.Test.YtoiiiidijpenfaaOpen1
namespace Go.Proofs.Ytoiiiidijpenfaa
open Go.ChangeShapes Go.WideShapes Go.ChangeAt Go.RowKit Go.Joins

set_option maxHeartbeats 400000 in
theorem lawRank_big0 (N0 : Int) (A0 : Option Addr) (m0 c0 : Nat) (n1 : Int) (n2 : Int) (w : World) (hm0 : m0 ≤ 9223372036854775807) (hbig : 1048576 < m0) :
    Calls Try.prog 8 #[.agg #[.int .i64 N0, .slice A0 m0 c0], .int .i64 n1, .int .i64 n2] w fun e w' => e = .returned (.bool true) ∧ Below w.heap.size w w' := by
  go_enter Try.func8, Try.ntmps8
  have sc : Scene w w [] := Scene.start w
  go_wp2_with fail
  replace sc := sc.box 42 #[.int .i64 N0, .slice A0 m0 c0]
  generalize (w.alloc (Obj.cells #[.int .i64 N0, .slice A0 m0 c0] 42)) = w1 at *
  have cz := szBits_any N0 A0 m0 c0 (1048576) w1 (by omega) (by omega) (by omega)
  rw [if_pos (show (1048576 : Int) < (m0 : Int) by omega)] at cz
  refine cz.mono ?_
  rintro e w2 ⟨rfl, hb⟩
  clear cz
  replace sc := sc.step hb
  clear hb
  have HB := Lib.hid sc.below
  clear sc
  go_wp2
  go_ret
  exact ⟨rfl, HB.out⟩

set_option maxRecDepth 100000 in
theorem fnExactRank_lifted (os : Os) (started : os.Started) (H : Type) (enc : TypeId × Value → H) :
    ReturnsInHanded {} Try.checked os 8 .any (Rows.fnExactRankSpec.pre6 enc Try.prog Try.f8 Rows.fnExactRankRow.domain false) (Rows.fnExactRankSpec.post enc Try.prog Try.f8 false true false false) := by
  refine law_lifted (C := Try.checked) Try.own started (by kernel_rfl) Try.func8
    (ChangeSpec.witness6 (enc := enc) (C := Try.checked) false ⟨#[], #[.agg #[.int .i64 0, .slice none 0 0], .int .i64 0, .int .i64 0], []⟩ 8 (by kernel_rfl) (by kernel_rfl) (by kernel_rfl) (by kernel_rfl))
    Try.laidOut (by kernel_rfl) rfl rfl Try.underlying4 ?_ ?_
  · intro H ds hds
    match ds, hds with
    | [d1, d2, d3], _ => exact ⟨rfl, rfl, rfl⟩
  · intro W base args ds p hval0 hA0
    have hval : ∀ (j : Nat) t v, Try.f8.params[j]? = some t → args[j]? = some v → Value.okWide Try.prog W .any base t v := hval0
    have hA : DataW.TrodAll enc Try.prog W 0 (fun _ => true) true Try.f8.params.toList args.toList ds p := hA0
    rw [Try.params8] at hA hval
    obtain ⟨v0, v1, v2, d0, d1, d2, p0, p1, p2, rfl, rfl, rfl, h0, h1, h2⟩ := trodAll_three hA
    obtain ⟨N0, A0, c0, L0, rfl, wN0, hl0, hL0, hw0⟩ := open_bits (hval 0 42 v0 rfl rfl) h0
    obtain ⟨n1, rfl, rfl, rfl, _⟩ := open_int Try.underlying3 (hval 1 3 v1 rfl rfl) h1
    obtain ⟨n2, rfl, rfl, rfl, _⟩ := open_int Try.underlying3 (hval 2 3 v2 rfl rfl) h2
    by_cases hb0 : 1048576 < L0.length
    · exact lawRank_big0 N0 A0 L0.length c0 n1 n2 W hl0 hb0
    · exact lawRank N0 A0 c0 L0 n1 n2 W hL0 hw0 (by omega)

theorem fnExactRank_holds : Rows.FnExactRankSaid :=
  OpenClaim.holds_of_wide 8 Try.f8 rfl rfl rfl rfl rfl rfl rfl ⟨rfl, rfl, rfl, rfl, rfl⟩ rfl rfl rfl rfl rfl (by kernel_rfl) Try.func8 (by kernel_rfl)
    (of_decide_eq_true (by kernel_rfl)) (by unfold Func.isWrapper; first | (rw [if_pos (by decide +kernel)]; kernel_rfl) | (rw [if_neg (by decide +kernel)]; exact ⟨rfl, rfl⟩))
    (fun os started H enc _ => fnExactRank_lifted os started H enc)

end Go.Proofs.Ytoiiiidijpenfaa
