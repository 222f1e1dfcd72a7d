/- Proved: laws.FnExactFramesOf returns true at every list of frames that can be read, and leaves its argument as it was. No condition. -/
import Derived.Test.YtlbnngolcoefdaaLawFramesOf
import Derived.Test.YtlbnngolcoefdaaOpen5
namespace Go.Proofs.Ytlbnngolcoefdaa
open Go.ChangeShapes Go.WideShapes Go.ChangeAt Go.RowKit Go.Joins

set_option maxHeartbeats 400000 in
theorem lawFramesOf_big (A0 : Option Addr) (c0 : Nat) (P : List FrA) (w : World) (hL : LiesG w A0 P) (hlen : P.length ≤ 9223372036854775807) (hp : ∀ (k : Nat) (p : FrA), P[k]? = some p → p.L.length ≤ 9223372036854775807) (hbig : 1048576 < totF P) :
    Calls Try.prog 7 #[.slice A0 P.length c0] w fun e w' => e = .returned (.bool true) ∧ Below w.heap.size w w' := by
  have C := Lib.hid (szFrames_any A0 c0 P w hL hlen hp)
  have hz : szV (totF P) = -1 := by
    unfold szV
    rw [if_neg (by omega)]
  rw [hz] at C
  clear hL hp hz hbig
  go_enter Try.func7, Try.ntmps7
  go_wp2_with fail
  refine C.out.mono ?_
  rintro e w1 ⟨rfl, hb⟩
  have HB := Lib.hid hb
  clear hb
  go_wp2
  go_ret
  exact ⟨rfl, HB.out⟩

set_option maxRecDepth 100000 in
theorem fnExactFramesOf_lifted (os : Os) (started : os.Started) (H : Type) (enc : TypeId × Value → H) :
    ReturnsInHanded {} Try.checked os 7 .any (Rows.fnExactFramesOfSpec.pre6 enc Try.prog Try.f7 Rows.fnExactFramesOfRow.domain false) (Rows.fnExactFramesOfSpec.post enc Try.prog Try.f7 false true false false) := by
  refine law_lifted (C := Try.checked) Try.own started (by kernel_rfl) Try.func7
    (ChangeSpec.witness6 (enc := enc) (C := Try.checked) false ⟨#[], #[.slice none 0 0], []⟩ 8 (by kernel_rfl) (by kernel_rfl) (by kernel_rfl) (by kernel_rfl))
    Try.laidOut (by kernel_rfl) rfl rfl Try.underlying4 ?_ ?_
  · intro H ds hds
    match ds, hds with
    | [d1], _ => exact ⟨rfl, rfl, rfl⟩
  · intro W base args ds p hval0 hA0
    have hval : ∀ (j : Nat) t v, Try.f7.params[j]? = some t → args[j]? = some v → Value.okWide Try.prog W .any base t v := hval0
    have hA : DataW.TrodAll enc Try.prog W 0 (fun _ => true) true Try.f7.params.toList args.toList ds p := hA0
    rw [Try.params7] at hA hval
    obtain ⟨v0, d0, rfl, rfl, h0⟩ := trodAll_one hA
    obtain ⟨A0, c0, P, rfl, hl, hL, hp⟩ := open_framesArg (hval 0 59 v0 rfl rfl) h0
    by_cases hb : 1048576 < totF P
    · exact lawFramesOf_big A0 c0 P W hL hl hp hb
    · exact lawFramesOf A0 c0 P W hL (by rw [← totF_val]; omega) (Nat.le_trans (totF_le P) (by omega)) hp

theorem fnExactFramesOf_holds : Rows.FnExactFramesOfSaid :=
  OpenClaim.holds_of_wide 7 Try.f7 rfl rfl rfl rfl rfl rfl rfl ⟨rfl, rfl, rfl, rfl, rfl⟩ rfl rfl rfl rfl rfl (by kernel_rfl) Try.func7 (by kernel_rfl)
    (of_decide_eq_true (by kernel_rfl)) (by unfold Func.isWrapper; first | (rw [if_pos (by decide +kernel)]; kernel_rfl) | (rw [if_neg (by decide +kernel)]; exact ⟨rfl, rfl⟩))
    (fun os started H enc _ => fnExactFramesOf_lifted os started H enc)

end Go.Proofs.Ytlbnngolcoefdaa
