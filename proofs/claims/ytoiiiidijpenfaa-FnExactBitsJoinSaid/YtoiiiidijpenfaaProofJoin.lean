/- Proved: laws.FnExactBitsJoin returns true at every two bit vectors (a number and a list of words each) that can be read, and leaves its arguments as they were. No condition. -/
import Derived.Test.YtoiiiidijpenfaaLawJoin
import Derived.Test.YtoiiiidijpenfaaOpen1
namespace Go.Proofs.Ytoiiiidijpenfaa
open Go.ChangeShapes Go.WideShapes Go.ChangeAt Go.RowKit Go.Joins

set_option maxHeartbeats 400000 in
theorem lawJoin_big0 (N0 : Int) (A0 : Option Addr) (m0 c0 : Nat) (N1 : Int) (A1 : Option Addr) (m1 c1 : Nat) (w : World) (hm0 : m0 ≤ 9223372036854775807) (hm1 : m1 ≤ 9223372036854775807) (hbig : 1048576 < m0) :
    Calls Try.prog 9 #[.agg #[.int .i64 N0, .slice A0 m0 c0], .agg #[.int .i64 N1, .slice A1 m1 c1]] w fun e w' => e = .returned (.bool true) ∧ Below w.heap.size w w' := by
  go_enter Try.func9, Try.ntmps9
  have sc : Scene w w [] := Scene.start w
  go_wp2_with fail
  replace sc := sc.box 42 #[.int .i64 N0, .slice A0 m0 c0]
  replace sc := sc.box 42 #[.int .i64 N1, .slice A1 m1 c1]
  generalize ((w.alloc (Obj.cells #[.int .i64 N0, .slice A0 m0 c0] 42)).alloc (Obj.cells #[.int .i64 N1, .slice A1 m1 c1] 42)) = w1 at *
  simp only [World.size_alloc] at sc
  have cz := szBits_any N0 A0 m0 c0 (1048576) w1 (by omega) (by omega) (by omega)
  rw [if_pos (show (1048576 : Int) < (m0 : Int) by omega)] at cz
  refine cz.mono ?_
  rintro e w2 ⟨rfl, hb⟩
  clear cz
  replace sc := sc.step hb
  clear hb
  have HB := Lib.hid sc.below
  clear sc
  go_wp2
  go_ret
  exact ⟨rfl, HB.out⟩

set_option maxHeartbeats 400000 in
theorem lawJoin_big1 (N0 : Int) (A0 : Option Addr) (m0 c0 : Nat) (N1 : Int) (A1 : Option Addr) (m1 c1 : Nat) (w : World) (hm0 : m0 ≤ 9223372036854775807) (hm1 : m1 ≤ 9223372036854775807) (hle : m0 ≤ 1048576) (hbig : 1048576 < m0 + m1) :
    Calls Try.prog 9 #[.agg #[.int .i64 N0, .slice A0 m0 c0], .agg #[.int .i64 N1, .slice A1 m1 c1]] w fun e w' => e = .returned (.bool true) ∧ Below w.heap.size w w' := by
  go_enter Try.func9, Try.ntmps9
  have sc : Scene w w [] := Scene.start w
  go_wp2_with fail
  replace sc := sc.box 42 #[.int .i64 N0, .slice A0 m0 c0]
  replace sc := sc.box 42 #[.int .i64 N1, .slice A1 m1 c1]
  generalize ((w.alloc (Obj.cells #[.int .i64 N0, .slice A0 m0 c0] 42)).alloc (Obj.cells #[.int .i64 N1, .slice A1 m1 c1] 42)) = w1 at *
  simp only [World.size_alloc] at sc
  have cz := szBits_any N0 A0 m0 c0 (1048576) w1 (by omega) (by omega) (by omega)
  rw [if_neg (show ¬ (1048576 : Int) < (m0 : Int) by omega)] at cz
  refine cz.mono ?_
  rintro e w2 ⟨rfl, hb⟩
  clear cz
  replace sc := sc.step hb
  clear hb
  have hnz : ¬ (1048576 - (m0 : Int) < 0) := by omega
  have hnd : decide (1048576 - (m0 : Int) < 0) = false := by simp; omega
  obtain ⟨fa10, fa11, fa1l⟩ := sc.two 0 rfl
  obtain ⟨fa00, fa01, fa0l⟩ := sc.two 1 rfl
  go_wp2_with fail
  clear fa10 fa11 fa1l
  clear fa00 fa01 fa0l
  clear hnz hnd
  have cz := szBits_any N1 A1 m1 c1 (1048576 - (m0 : Int)) w2 (by omega) (by omega) (by omega)
  rw [if_pos (show (1048576 - (m0 : Int) : Int) < (m1 : Int) by omega)] at cz
  refine cz.mono ?_
  rintro e w3 ⟨rfl, hb⟩
  clear cz
  replace sc := sc.step hb
  clear hb
  have HB := Lib.hid sc.below
  clear sc
  go_wp2
  go_ret
  exact ⟨rfl, HB.out⟩

set_option maxRecDepth 100000 in
theorem fnExactBitsJoin_lifted (os : Os) (started : os.Started) (H : Type) (enc : TypeId × Value → H) :
    ReturnsInHanded {} Try.checked os 9 .any (Rows.fnExactBitsJoinSpec.pre6 enc Try.prog Try.f9 Rows.fnExactBitsJoinRow.domain false) (Rows.fnExactBitsJoinSpec.post enc Try.prog Try.f9 false true false false) := by
  refine law_lifted (C := Try.checked) Try.own started (by kernel_rfl) Try.func9
    (ChangeSpec.witness6 (enc := enc) (C := Try.checked) false ⟨#[], #[.agg #[.int .i64 0, .slice none 0 0], .agg #[.int .i64 0, .slice none 0 0]], []⟩ 8 (by kernel_rfl) (by kernel_rfl) (by kernel_rfl) (by kernel_rfl))
    Try.laidOut (by kernel_rfl) rfl rfl Try.underlying4 ?_ ?_
  · intro H ds hds
    match ds, hds with
    | [d1, d2], _ => exact ⟨rfl, rfl, rfl⟩
  · intro W base args ds p hval0 hA0
    have hval : ∀ (j : Nat) t v, Try.f9.params[j]? = some t → args[j]? = some v → Value.okWide Try.prog W .any base t v := hval0
    have hA : DataW.TrodAll enc Try.prog W 0 (fun _ => true) true Try.f9.params.toList args.toList ds p := hA0
    rw [Try.params9] at hA hval
    obtain ⟨v0, v1, d0, d1, p0, p1, rfl, rfl, rfl, h0, h1⟩ := trodAll_two hA
    obtain ⟨N0, A0, c0, L0, rfl, wN0, hl0, hL0, hw0⟩ := open_bits (hval 0 42 v0 rfl rfl) h0
    obtain ⟨N1, A1, c1, L1, rfl, wN1, hl1, hL1, hw1⟩ := open_bits (hval 1 42 v1 rfl rfl) h1
    by_cases hb0 : 1048576 < L0.length
    · exact lawJoin_big0 N0 A0 L0.length c0 N1 A1 L1.length c1 W hl0 hl1 hb0
    · skip
      by_cases hb1 : 1048576 < L0.length + L1.length
      · exact lawJoin_big1 N0 A0 L0.length c0 N1 A1 L1.length c1 W hl0 hl1 (by omega) hb1
      · exact lawJoin N0 A0 c0 L0 N1 A1 c1 L1 W hL0 hL1 hw0 hw1 (by omega)

theorem fnExactBitsJoin_holds : Rows.FnExactBitsJoinSaid :=
  OpenClaim.holds_of_wide 9 Try.f9 rfl rfl rfl rfl rfl rfl rfl ⟨rfl, rfl, rfl, rfl, rfl⟩ rfl rfl rfl rfl rfl (by kernel_rfl) Try.func9 (by kernel_rfl)
    (of_decide_eq_true (by kernel_rfl)) (by unfold Func.isWrapper; first | (rw [if_pos (by decide +kernel)]; kernel_rfl) | (rw [if_neg (by decide +kernel)]; exact ⟨rfl, rfl⟩))
    (fun os started H enc _ => fnExactBitsJoin_lifted os started H enc)

end Go.Proofs.Ytoiiiidijpenfaa
