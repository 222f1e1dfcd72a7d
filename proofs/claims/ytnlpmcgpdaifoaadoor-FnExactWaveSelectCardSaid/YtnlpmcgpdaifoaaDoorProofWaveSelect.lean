/- Proved: laws.FnExactWaveSelect returns true at every wave and every two numbers that can be read, and leaves its arguments as they were: the tied card. No condition but that the library's table of trailing zeros holds what the program's text lays (the card ties it). -/
import Derived.Test.YtnlpmcgpdaifoaaDoorLawWaveSelect
import Derived.Test.YtnlpmcgpdaifoaaDoorOpenW
import Derived.Test.YtnlpmcgpdaifoaaDoorLiftD
namespace Go.Proofs.YtnlpmcgpdaifoaaDoor
open Go.ChangeShapes Go.WideShapes Go.ChangeAt Go.RowKit Go.Joins
set_option maxRecDepth 100000

theorem int_range {n : Int} (h : (Lit.int .i64 n).wf = true) : -9223372036854775808 ≤ n ∧ n ≤ 9223372036854775807 := by
  simp [Lit.wf, IntKind.min, IntKind.max, IntKind.signed, IntKind.bits] at h
  omega

set_option maxRecDepth 100000 in
theorem fnExactWaveSelect_lifted (os : Os) (started : os.Started) (H : Type) (enc : TypeId × Value → H) :
    ReturnsInHanded {} Tryd.checked os 4 .any (fun w args => (Rows.fnExactWaveSelectSpec.pre enc Tryd.prog Tryd.f4 [] false w args ∧ laidMetH Tryd.prog tabLaid w) ∧ sizedMet enc Tryd.prog Tryd.f4 (OpenSpec.ofChange Rows.fnExactWaveSelectSpec) false w args)
      (Rows.fnExactWaveSelectSpec.post enc Tryd.prog Tryd.f4 false true false false) := by
  refine law_lifted_and (C := Tryd.checked) (X := fun w _ => laidMetH Tryd.prog tabLaid w) (fun _ _ _ hh h => h.of_heap hh) Tryd.own started (by kernel_rfl) Tryd.func4
    (ChangeSpec.witness_shaped (enc := enc) (C := Tryd.checked) (os := os) (X := fun w _ => laidMetH Tryd.prog tabLaid w) false (World.doorLaid Tryd.prog 14 os) #[.agg #[.int .i64 0, .slice none 0 0, .slice none 0 0], .int .i64 0, .int .i64 0] 8 rfl (World.shaped_of_RefB (by kernel_rfl) (by kernel_rfl)) (by kernel_rfl) (by kernel_rfl) (by kernel_rfl) (door_met os _))
    Tryd.laidOut (by kernel_rfl) rfl rfl Tryd.underlying4 ?_ ?_
  · intro H ds hds
    match ds, hds with
    | [d1, d2, d3], _ => exact ⟨rfl, rfl, rfl⟩
  · intro W base args ds p hval0 hA0 hlaid
    have hval : ∀ (j : Nat) t v, Tryd.f4.params[j]? = some t → args[j]? = some v → Value.okWide Tryd.prog W .any base t v := hval0
    have hA : DataW.TrodAll enc Tryd.prog W 0 (fun _ => true) true Tryd.f4.params.toList args.toList ds p := hA0
    rw [Tryd.params4] at hA hval
    obtain ⟨v0, v1, v2, d0, d1, d2, p0, p1, p2, rfl, rfl, rfl, h0, h1, h2⟩ := trodAll_three hA
    obtain ⟨N, ZA, zc, Z, LA, lc, P, rfl, hz, hZ, hr, hP, hL, hp⟩ := open_wave (hval 0 40 v0 rfl rfl) h0
    obtain ⟨x, rfl, rfl, rfl, qx⟩ := open_int Tryd.underlying3 (hval 1 3 v1 rfl rfl) h1
    obtain ⟨k, rfl, rfl, rfl, qk⟩ := open_int Tryd.underlying3 (hval 2 3 v2 rfl rfl) h2
    by_cases hb : 1048576 < Z.length + totL P
    · exact lawWaveSelect_big N ZA zc Z LA lc P x k W hL hz hP hp hb
    · exact lawWaveSelect N ZA zc Z LA lc P x k W hZ hr hL (by omega) (int_range qk).1 (int_range qk).2 (tab_of hlaid)

theorem fnExactWaveSelect_holds : Rows.FnExactWaveSelectSaid :=
  OpenClaim.holds_of_wide 4 Tryd.f4 rfl rfl rfl rfl rfl rfl rfl ⟨rfl, rfl, rfl, rfl, rfl⟩ rfl rfl rfl rfl rfl (by kernel_rfl) Tryd.func4 (by kernel_rfl)
    (of_decide_eq_true (by kernel_rfl)) (by unfold Func.isWrapper; first | (rw [if_pos (by decide +kernel)]; kernel_rfl) | (rw [if_neg (by decide +kernel)]; exact ⟨rfl, rfl⟩))
    (fun os started H enc _ => fnExactWaveSelect_lifted os started H enc)

theorem fnExactWaveSelect_plain (f : FuncId) (fn : Func) (hf : Tryd.pinned.checked.prog.funcNamed Rows.fnExactWaveSelectRow.func = some f) (hfn : Tryd.pinned.checked.prog.funcs[f]? = some fn) :
    false = Tryd.pinned.checked.prog.looks [] ∧ ∀ (j : Nat) t, fn.params[j]? = some t → Tryd.pinned.checked.prog.wantsStandIn t = false := by
  obtain rfl : f = 4 := Option.some.inj ((show Tryd.prog.funcNamed Rows.fnExactWaveSelectRow.func = some 4 by kernel_rfl).symm.trans hf) |>.symm
  obtain rfl : fn = Tryd.f4 := (Option.some.inj (Tryd.func4.symm.trans hfn)).symm
  refine ⟨by kernel_rfl, fun j t ht => ?_⟩
  rw [Tryd.params4] at ht
  have hm := Array.mem_of_getElem? ht
  have ht2 : t = 40 ∨ t = 3 := by simpa using hm
  rcases ht2 with rfl | rfl
  · exact (show Tryd.prog.wantsStandIn 40 = false by kernel_rfl)
  · exact (show Tryd.prog.wantsStandIn 3 = false by kernel_rfl)

theorem fnExactWaveSelect_card : Rows.FnExactWaveSelectCardSaid :=
  Claim7.holds_tied_plain_at .later [] _ _ _ _ fnExactWaveSelect_holds (fun _ h => by cases h) (by kernel_rfl) (fun _ h => by cases h) fnExactWaveSelect_row_tie rfl ⟨rfl, rfl⟩ (by kernel_rfl) rfl fnExactWaveSelect_plain (by kernel_rfl)

end Go.Proofs.YtnlpmcgpdaifoaaDoor
