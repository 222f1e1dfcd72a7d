/- Proved: laws.FnExactFrameRead returns true at every list of bytes and every number that can be read, and leaves its arguments as they were: the tied card. No condition but that the sentinel of frames holds what the program's text lays (the card ties it). -/
import Derived.Test.YtlbnngolcoefdaaDoorLawFrameRead
import Derived.Test.YtlbnngolcoefdaaDoorOpen2
import Derived.Test.YtlbnngolcoefdaaDoorLiftE
import Derived.SevenTiedAt
namespace Go.Proofs.YtlbnngolcoefdaaDoor
open Go.ChangeShapes Go.WideShapes Go.ChangeAt Go.RowKit Go.Joins
set_option maxRecDepth 100000

set_option maxHeartbeats 400000 in
theorem lawFrameRead_big (A0 : Option Addr) (m0 c0 : Nat) (n1 : Int) (w : World) (hm : m0 ≤ 9223372036854775807) (hbig : 1048576 < m0) :
    Calls Tryd.prog 8 #[.slice A0 m0 c0, .int .i64 n1] w fun e w' => e = .returned (.bool true) ∧ Below w.heap.size w w' := by
  go_enter Tryd.func8, Tryd.ntmps8
  go_wp2
  go_ret
  exact ⟨rfl, Below.refl _ _⟩

set_option maxRecDepth 100000 in
theorem fnExactFrameRead_lifted (os : Os) (started : os.Started) (H : Type) (enc : TypeId × Value → H) :
    ReturnsInHanded {} Tryd.checked os 8 .any (fun w args => (Rows.fnExactFrameReadSpec.pre enc Tryd.prog Tryd.f8 [] false w args ∧ laidMetH Tryd.prog errLaid w) ∧ sizedMet enc Tryd.prog Tryd.f8 (OpenSpec.ofChange Rows.fnExactFrameReadSpec) false w args)
      (Rows.fnExactFrameReadSpec.post enc Tryd.prog Tryd.f8 false true false false) := by
  refine law_lifted_x (C := Tryd.checked) (X := fun w _ => laidMetH Tryd.prog errLaid w) (fun _ _ _ hh h => h.of_heap hh) Tryd.own started (by kernel_rfl) Tryd.func8
    (ChangeSpec.witness_shaped (enc := enc) (C := Tryd.checked) (os := os) (X := fun w _ => laidMetH Tryd.prog errLaid w) false (World.doorLaid Tryd.prog 33 os) #[.slice none 0 0, .int .i64 0] 8 rfl (World.shaped_of_RefB (by kernel_rfl) (by kernel_rfl)) (by kernel_rfl) (by kernel_rfl) (by kernel_rfl) (err_met os _))
    Tryd.laidOut (by kernel_rfl) (by kernel_rfl) rfl Tryd.underlying4 ?_ ?_
  · intro H ds gs hds hgs
    match ds, gs, hds, hgs with
    | [d1, d2], [g1], _, _ => exact ⟨rfl, rfl, rfl⟩
  · intro W base args ds p hval0 hA0 hlaid
    have hval : ∀ (j : Nat) t v, Tryd.f8.params[j]? = some t → args[j]? = some v → Value.okWide Tryd.prog W .any base t v := hval0
    have hA : DataW.TrodAll enc Tryd.prog W 0 (fun _ => true) true Tryd.f8.params.toList args.toList ds p := hA0
    rw [Tryd.params8] at hA hval
    obtain ⟨v0, v1, d0, d1, p0, p1, rfl, rfl, rfl, h0, h1⟩ := trodAll_two hA
    obtain ⟨A0, c0, L0, rfl, hl0, hL0, hw0⟩ := open_bytesArg (hval 0 22 v0 rfl rfl) h0
    obtain ⟨n1, rfl, rfl, rfl, qn1⟩ := open_int Tryd.underlying3 (hval 1 3 v1 rfl rfl) h1
    obtain ⟨b, hG⟩ := noFrame_of hlaid
    by_cases hb : 1048576 < L0.length
    · exact lawFrameRead_big A0 L0.length c0 n1 W hl0 hb
    · exact lawFrameRead A0 c0 L0 n1 W hL0 hw0 hG (int_le qn1) (by omega)

theorem fnExactFrameRead_holds : Rows.FnExactFrameReadSaid :=
  OpenClaim.holds_of_wide 8 Tryd.f8 rfl rfl rfl rfl rfl rfl rfl ⟨rfl, rfl, rfl, rfl, rfl⟩ rfl rfl rfl rfl rfl (by kernel_rfl) Tryd.func8 (by kernel_rfl)
    (of_decide_eq_true (by kernel_rfl)) (by unfold Func.isWrapper; first | (rw [if_pos (by decide +kernel)]; kernel_rfl) | (rw [if_neg (by decide +kernel)]; exact ⟨rfl, rfl⟩))
    (fun os started H enc _ => fnExactFrameRead_lifted os started H enc)

theorem fnExactFrameRead_plain (f : FuncId) (fn : Func) (hf : Tryd.pinned.checked.prog.funcNamed Rows.fnExactFrameReadRow.func = some f) (hfn : Tryd.pinned.checked.prog.funcs[f]? = some fn) :
    true = Tryd.pinned.checked.prog.looks [] ∧ ∀ (j : Nat) t, fn.params[j]? = some t → Tryd.pinned.checked.prog.wantsStandIn t = false := by
  obtain rfl : f = 8 := Option.some.inj ((show Tryd.prog.funcNamed Rows.fnExactFrameReadRow.func = some 8 by kernel_rfl).symm.trans hf) |>.symm
  obtain rfl : fn = Tryd.f8 := (Option.some.inj (Tryd.func8.symm.trans hfn)).symm
  refine ⟨by kernel_rfl, fun j t ht => ?_⟩
  rw [Tryd.params8] at ht
  have hm := Array.mem_of_getElem? ht
  have ht2 : t = 22 ∨ t = 3 := by simpa using hm
  rcases ht2 with rfl | rfl
  · exact (show Tryd.prog.wantsStandIn 22 = false by kernel_rfl)
  · exact (show Tryd.prog.wantsStandIn 3 = false by kernel_rfl)

theorem fnExactFrameRead_card : Rows.FnExactFrameReadCardSaid :=
  Claim7.holds_tied_plain_at .later [] _ _ _ _ fnExactFrameRead_holds (fun _ h => by cases h) (by kernel_rfl) (fun _ h => by cases h) fnExactFrameRead_row_tie rfl ⟨rfl, rfl⟩ (by kernel_rfl) rfl fnExactFrameRead_plain (by kernel_rfl)

end Go.Proofs.YtlbnngolcoefdaaDoor
