/- Proved: laws.FnExactSelect returns true at every bit vector (a number and a list of words) and every two numbers that can be read, and leaves its arguments as they were: the tied card. No condition but that the library's table of trailing zeros holds what the program's text lays (the card ties it). -/
import Derived.Test.YticndfdicalmcabDoorLawSel
import Derived.Test.YticndfdicalmcabDoorLiftD
namespace Go.Proofs.YticndfdicalmcabDoor
open Go.ChangeShapes Go.WideShapes Go.ChangeAt Go.RowKit Go.Joins

theorem sel_le {n : Int} (h : (Lit.int .i64 n).wf = true) : n ≤ 9223372036854775807 := by
  simp [Lit.wf, IntKind.min, IntKind.max, IntKind.signed, IntKind.bits] at h
  omega

set_option maxHeartbeats 400000 in
theorem lawSel_big0 (N0 : Int) (A0 : Option Addr) (m0 c0 : Nat) (n1 : Int) (n2 : Int) (w : World) (hm0 : m0 ≤ 9223372036854775807) (hbig : 1048576 < m0) :
    Calls Tryd.prog 4 #[.agg #[.int .i64 N0, .slice A0 m0 c0], .int .i64 n1, .int .i64 n2] w fun e w' => e = .returned (.bool true) ∧ Below w.heap.size w w' := by
  go_enter Tryd.func4, Tryd.ntmps4
  have sc : Scene w w [] := Scene.start w
  go_wp2_with fail
  replace sc := sc.box 31 #[.int .i64 N0, .slice A0 m0 c0]
  generalize (w.alloc (Obj.cells #[.int .i64 N0, .slice A0 m0 c0] 31)) = w1 at *
  have cz := szBits_any N0 A0 m0 c0 (1048576) w1 (by omega) (by omega) (by omega)
  rw [if_pos (show (1048576 : Int) < (m0 : Int) by omega)] at cz
  refine cz.mono ?_
  rintro e w2 ⟨rfl, hb⟩
  clear cz
  replace sc := sc.step hb
  clear hb
  have HB := Lib.hid sc.below
  clear sc
  go_wp2
  go_ret
  exact ⟨rfl, HB.out⟩

set_option maxRecDepth 100000 in
theorem fnExactSelect_lifted (os : Os) (started : os.Started) (H : Type) (enc : TypeId × Value → H) :
    ReturnsInHanded {} Tryd.checked os 4 .any (fun w args => (Rows.fnExactSelectSpec.pre enc Tryd.prog Tryd.f4 [] false w args ∧ laidMetH Tryd.prog tabLaid w) ∧ sizedMet enc Tryd.prog Tryd.f4 (OpenSpec.ofChange Rows.fnExactSelectSpec) false w args)
      (Rows.fnExactSelectSpec.post enc Tryd.prog Tryd.f4 false true false false) := by
  refine law_lifted_and (C := Tryd.checked) (X := fun w _ => laidMetH Tryd.prog tabLaid w) (fun _ _ _ hh h => h.of_heap hh) Tryd.own started (by kernel_rfl) Tryd.func4
    (ChangeSpec.witness_shaped (enc := enc) (C := Tryd.checked) (os := os) (X := fun w _ => laidMetH Tryd.prog tabLaid w) false (World.doorLaid Tryd.prog 14 os) #[.agg #[.int .i64 0, .slice none 0 0], .int .i64 0, .int .i64 0] 8 rfl (World.shaped_of_RefB (by kernel_rfl) (by kernel_rfl)) (by kernel_rfl) (by kernel_rfl) (by kernel_rfl) (door_met os _))
    Tryd.laidOut (by kernel_rfl) rfl rfl Tryd.underlying4 ?_ ?_
  · intro H ds hds
    match ds, hds with
    | [d1, d2, d3], _ => exact ⟨rfl, rfl, rfl⟩
  · intro W base args ds p hval0 hA0 hlaid
    have hval : ∀ (j : Nat) t v, Tryd.f4.params[j]? = some t → args[j]? = some v → Value.okWide Tryd.prog W .any base t v := hval0
    have hA : DataW.TrodAll enc Tryd.prog W 0 (fun _ => true) true Tryd.f4.params.toList args.toList ds p := hA0
    rw [Tryd.params4] at hA hval
    obtain ⟨v0, v1, v2, d0, d1, d2, p0, p1, p2, rfl, rfl, rfl, h0, h1, h2⟩ := trodAll_three hA
    obtain ⟨N0, A0, c0, L0, rfl, wN0, hl0, hL0, hw0⟩ := open_bits (hval 0 31 v0 rfl rfl) h0
    obtain ⟨n1, rfl, rfl, rfl, _⟩ := open_int Tryd.underlying3 (hval 1 3 v1 rfl rfl) h1
    obtain ⟨n2, rfl, rfl, rfl, w2⟩ := open_int Tryd.underlying3 (hval 2 3 v2 rfl rfl) h2
    by_cases hb0 : 1048576 < L0.length
    · exact lawSel_big0 N0 A0 L0.length c0 n1 n2 W hl0 hb0
    · exact lawSel N0 A0 c0 L0 n1 n2 W hL0 hw0 (sel_le w2) (tab_of hlaid) (by omega)

theorem fnExactSelect_holds : Rows.FnExactSelectSaid :=
  OpenClaim.holds_of_wide 4 Tryd.f4 rfl rfl rfl rfl rfl rfl rfl ⟨rfl, rfl, rfl, rfl, rfl⟩ rfl rfl rfl rfl rfl (by kernel_rfl) Tryd.func4 (by kernel_rfl)
    (of_decide_eq_true (by kernel_rfl)) (by unfold Func.isWrapper; first | (rw [if_pos (by decide +kernel)]; kernel_rfl) | (rw [if_neg (by decide +kernel)]; exact ⟨rfl, rfl⟩))
    (fun os started H enc _ => fnExactSelect_lifted os started H enc)

theorem fnExactSelect_plain (f : FuncId) (fn : Func) (hf : Tryd.pinned.checked.prog.funcNamed Rows.fnExactSelectRow.func = some f) (hfn : Tryd.pinned.checked.prog.funcs[f]? = some fn) :
    false = Tryd.pinned.checked.prog.looks [] ∧ ∀ (j : Nat) t, fn.params[j]? = some t → Tryd.pinned.checked.prog.wantsStandIn t = false := by
  obtain rfl : f = 4 := Option.some.inj ((show Tryd.prog.funcNamed Rows.fnExactSelectRow.func = some 4 by kernel_rfl).symm.trans hf) |>.symm
  obtain rfl : fn = Tryd.f4 := (Option.some.inj (Tryd.func4.symm.trans hfn)).symm
  refine ⟨by kernel_rfl, fun j t ht => ?_⟩
  rw [Tryd.params4] at ht
  have hm := Array.mem_of_getElem? ht
  have ht2 : t = 31 ∨ t = 3 := by simpa using hm
  rcases ht2 with rfl | rfl
  · exact (show Tryd.prog.wantsStandIn 31 = false by kernel_rfl)
  · exact (show Tryd.prog.wantsStandIn 3 = false by kernel_rfl)

theorem fnExactSelect_card : Rows.FnExactSelectCardSaid :=
  Claim7.holds_tied_plain_at .later [] _ _ _ _ fnExactSelect_holds (fun _ h => by cases h) (by kernel_rfl) (fun _ h => by cases h) fnExactSelect_row_tie rfl ⟨rfl, rfl⟩ (by kernel_rfl) rfl fnExactSelect_plain (by kernel_rfl)

end Go.Proofs.YticndfdicalmcabDoor
