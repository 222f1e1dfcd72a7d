/- Proved: laws.FnFramesBack returns true at every list of bytes that can be read, and leaves its argument as it was: the tied card. No condition but that the sentinel of frames holds what the program's text lays (the card ties it). -/
import Derived.Test.YtlbnngolcoefdaaDoorLawFramesBack
import Derived.Test.YtlbnngolcoefdaaDoorOpen2
import Derived.Test.YtlbnngolcoefdaaDoorLiftE
import Derived.SevenTiedAt
namespace Go.Proofs.YtlbnngolcoefdaaDoor
open Go.ChangeShapes Go.WideShapes Go.ChangeAt Go.RowKit Go.Joins
set_option maxRecDepth 100000

set_option maxHeartbeats 400000 in
theorem lawFramesBack_big (A0 : Option Addr) (m0 c0 : Nat) (w : World) (hbig : 1048576 < m0) :
    Calls Tryd.prog 4 #[.slice A0 m0 c0] w fun e w' => e = .returned (.bool true) ∧ Below w.heap.size w w' := by
  have tb : decide (1048576 < m0) = true := by simpa using hbig
  go_enter Tryd.func4, Tryd.ntmps4
  go_wp2_with fail
  refine (big_any A0 m0 c0 w).mono ?_
  rintro e w1 ⟨rfl, rfl⟩
  rw [tb]
  go_wp2
  go_ret
  exact ⟨rfl, Below.refl _ _⟩

set_option maxRecDepth 100000 in
theorem fnFramesBack_lifted (os : Os) (started : os.Started) (H : Type) (enc : TypeId × Value → H) :
    ReturnsInHanded {} Tryd.checked os 4 .any (fun w args => (Rows.fnFramesBackSpec.pre enc Tryd.prog Tryd.f4 [] false w args ∧ laidMetH Tryd.prog errLaid w) ∧ sizedMet enc Tryd.prog Tryd.f4 (OpenSpec.ofChange Rows.fnFramesBackSpec) false w args)
      (Rows.fnFramesBackSpec.post enc Tryd.prog Tryd.f4 false true false false) := by
  refine law_lifted_x (C := Tryd.checked) (X := fun w _ => laidMetH Tryd.prog errLaid w) (fun _ _ _ hh h => h.of_heap hh) Tryd.own started (by kernel_rfl) Tryd.func4
    (ChangeSpec.witness_shaped (enc := enc) (C := Tryd.checked) (os := os) (X := fun w _ => laidMetH Tryd.prog errLaid w) false (World.doorLaid Tryd.prog 33 os) #[.slice none 0 0] 8 rfl (World.shaped_of_RefB (by kernel_rfl) (by kernel_rfl)) (by kernel_rfl) (by kernel_rfl) (by kernel_rfl) (err_met os _))
    Tryd.laidOut (by kernel_rfl) (by kernel_rfl) rfl Tryd.underlying4 ?_ ?_
  · intro H ds gs hds hgs
    match ds, gs, hds, hgs with
    | [d1], [g1], _, _ => exact ⟨rfl, rfl, rfl⟩
  · intro W base args ds p hval0 hA0 hlaid
    have hval : ∀ (j : Nat) t v, Tryd.f4.params[j]? = some t → args[j]? = some v → Value.okWide Tryd.prog W .any base t v := hval0
    have hA : DataW.TrodAll enc Tryd.prog W 0 (fun _ => true) true Tryd.f4.params.toList args.toList ds p := hA0
    rw [Tryd.params4] at hA hval
    obtain ⟨v0, d0, rfl, rfl, h0⟩ := trodAll_one hA
    obtain ⟨A0, c0, L0, rfl, hl0, hL0, hw0⟩ := open_bytesArg (hval 0 22 v0 rfl rfl) h0
    obtain ⟨b, hG⟩ := noFrame_of hlaid
    by_cases hb : 1048576 < L0.length
    · exact lawFramesBack_big A0 L0.length c0 W hb
    · exact lawFramesBack A0 c0 L0 b W hG hL0 hw0 (by omega)

theorem fnFramesBack_holds : Rows.FnFramesBackSaid :=
  OpenClaim.holds_of_wide 4 Tryd.f4 rfl rfl rfl rfl rfl rfl rfl ⟨rfl, rfl, rfl, rfl, rfl⟩ rfl rfl rfl rfl rfl (by kernel_rfl) Tryd.func4 (by kernel_rfl)
    (of_decide_eq_true (by kernel_rfl)) (by unfold Func.isWrapper; first | (rw [if_pos (by decide +kernel)]; kernel_rfl) | (rw [if_neg (by decide +kernel)]; exact ⟨rfl, rfl⟩))
    (fun os started H enc _ => fnFramesBack_lifted os started H enc)

theorem fnFramesBack_plain (f : FuncId) (fn : Func) (hf : Tryd.pinned.checked.prog.funcNamed Rows.fnFramesBackRow.func = some f) (hfn : Tryd.pinned.checked.prog.funcs[f]? = some fn) :
    true = Tryd.pinned.checked.prog.looks [] ∧ ∀ (j : Nat) t, fn.params[j]? = some t → Tryd.pinned.checked.prog.wantsStandIn t = false := by
  obtain rfl : f = 4 := Option.some.inj ((show Tryd.prog.funcNamed Rows.fnFramesBackRow.func = some 4 by kernel_rfl).symm.trans hf) |>.symm
  obtain rfl : fn = Tryd.f4 := (Option.some.inj (Tryd.func4.symm.trans hfn)).symm
  refine ⟨by kernel_rfl, fun j t ht => ?_⟩
  rw [Tryd.params4] at ht
  have hm := Array.mem_of_getElem? ht
  have ht2 : t = 22 := by simpa using hm
  rw [ht2]
  exact (show Tryd.prog.wantsStandIn 22 = false by kernel_rfl)

theorem fnFramesBack_card : Rows.FnFramesBackCardSaid :=
  Claim7.holds_tied_plain_at .later [] _ _ _ _ fnFramesBack_holds (fun _ h => by cases h) (by kernel_rfl) (fun _ h => by cases h) fnFramesBack_row_tie rfl ⟨rfl, rfl⟩ (by kernel_rfl) rfl fnFramesBack_plain (by kernel_rfl)

end Go.Proofs.YtlbnngolcoefdaaDoor
