/- Proved: laws.FnExactSparseAt returns true at every sparse value (six numbers and two lists of words) and every number that can be read, and leaves its arguments as they were: the tied card. No condition but that the library's table of trailing zeros holds what the program's text lays (the card ties it). -/
import Derived.Test.YtlbnngolcoefdaaDoorLawSparseAt
import Derived.Test.YtlbnngolcoefdaaDoorOpen3
import Derived.Test.YtlbnngolcoefdaaDoorLiftD
namespace Go.Proofs.YtlbnngolcoefdaaDoor
open Go.ChangeShapes Go.WideShapes Go.ChangeAt Go.RowKit Go.Joins
set_option maxRecDepth 100000

set_option maxHeartbeats 400000 in
theorem lawSparseAt_big (V0 N0 P0 M0 K0 H0 : Int) (A0 : Option Addr) (m0 c0 : Nat) (B0 : Option Addr) (m1 d0 : Nat) (n1 : Int) (w : World) (hm : m0 ≤ 9223372036854775807) (hm1 : m1 ≤ 9223372036854775807) (hbig : 1048576 < m0 + m1) :
    Calls Tryd.prog 6 #[SP V0 N0 P0 M0 K0 (.slice A0 m0 c0) H0 (.slice B0 m1 d0), .int .i64 n1] w fun e w' => e = .returned (.bool true) ∧ Below w.heap.size w w' := by
  have C := Lib.hid fun W => szSparse_big V0 N0 P0 M0 K0 H0 A0 B0 m0 c0 m1 d0 W hm hm1 hbig
  go_enter Tryd.func6, Tryd.ntmps6
  go_wp2_with fail
  refine (C.out _).mono ?_
  rintro e w1 ⟨rfl, hb⟩
  have HB := Lib.hid hb
  clear hb
  go_wp2
  go_ret
  exact ⟨rfl, below_then (by go_grown) HB.out⟩

set_option maxRecDepth 100000 in
theorem fnExactSparseAt_lifted (os : Os) (started : os.Started) (H : Type) (enc : TypeId × Value → H) :
    ReturnsInHanded {} Tryd.checked os 6 .any (fun w args => (Rows.fnExactSparseAtSpec.pre enc Tryd.prog Tryd.f6 [] false w args ∧ laidMetH Tryd.prog tabLaid w) ∧ sizedMet enc Tryd.prog Tryd.f6 (OpenSpec.ofChange Rows.fnExactSparseAtSpec) false w args)
      (Rows.fnExactSparseAtSpec.post enc Tryd.prog Tryd.f6 false true false false) := by
  refine law_lifted_and (C := Tryd.checked) (X := fun w _ => laidMetH Tryd.prog tabLaid w) (fun _ _ _ hh h => h.of_heap hh) Tryd.own started (by kernel_rfl) Tryd.func6
    (ChangeSpec.witness_shaped (enc := enc) (C := Tryd.checked) (os := os) (X := fun w _ => laidMetH Tryd.prog tabLaid w) false (World.doorLaid Tryd.prog 14 os) #[.agg #[.int .i64 0, .int .i64 0, .int .i64 0, .int .i64 0, .int .i64 0, .slice none 0 0, .int .i64 0, .slice none 0 0], .int .i64 0] 8 rfl (World.shaped_of_RefB (by kernel_rfl) (by kernel_rfl)) (by kernel_rfl) (by kernel_rfl) (by kernel_rfl) (door_met os _))
    Tryd.laidOut (by kernel_rfl) rfl rfl Tryd.underlying4 ?_ ?_
  · intro H ds hds
    match ds, hds with
    | [d1, d2], _ => exact ⟨rfl, rfl, rfl⟩
  · intro W base args ds p hval0 hA0 hlaid
    have hval : ∀ (j : Nat) t v, Tryd.f6.params[j]? = some t → args[j]? = some v → Value.okWide Tryd.prog W .any base t v := hval0
    have hA : DataW.TrodAll enc Tryd.prog W 0 (fun _ => true) true Tryd.f6.params.toList args.toList ds p := hA0
    rw [Tryd.params6] at hA hval
    obtain ⟨v0, v1, d0, d1, p0, p1, rfl, rfl, rfl, h0, h1⟩ := trodAll_two hA
    obtain ⟨V0, N0, P0, M0, K0, H0, A0, c0, L0, B0, d0', K1, rfl, hwN, hl0, hL0, hw0, hl1, hL1, hw1⟩ := open_sparse (hval 0 60 v0 rfl rfl) h0
    obtain ⟨n1, rfl, rfl, rfl, qn1⟩ := open_int Tryd.underlying3 (hval 1 3 v1 rfl rfl) h1
    by_cases hb : 1048576 < L0.length + K1.length
    · exact lawSparseAt_big V0 N0 P0 M0 K0 H0 A0 L0.length c0 B0 K1.length d0' n1 W hl0 hl1 hb
    · exact lawSparseAt V0 N0 P0 M0 K0 H0 A0 c0 L0 B0 d0' K1 n1 W hL0 hw0 hL1 hw1 (int_le hwN) (int_le qn1) (tab_of hlaid) (by omega)

theorem fnExactSparseAt_holds : Rows.FnExactSparseAtSaid :=
  OpenClaim.holds_of_wide 6 Tryd.f6 rfl rfl rfl rfl rfl rfl rfl ⟨rfl, rfl, rfl, rfl, rfl⟩ rfl rfl rfl rfl rfl (by kernel_rfl) Tryd.func6 (by kernel_rfl)
    (of_decide_eq_true (by kernel_rfl)) (by unfold Func.isWrapper; first | (rw [if_pos (by decide +kernel)]; kernel_rfl) | (rw [if_neg (by decide +kernel)]; exact ⟨rfl, rfl⟩))
    (fun os started H enc _ => fnExactSparseAt_lifted os started H enc)

theorem fnExactSparseAt_plain (f : FuncId) (fn : Func) (hf : Tryd.pinned.checked.prog.funcNamed Rows.fnExactSparseAtRow.func = some f) (hfn : Tryd.pinned.checked.prog.funcs[f]? = some fn) :
    true = Tryd.pinned.checked.prog.looks [] ∧ ∀ (j : Nat) t, fn.params[j]? = some t → Tryd.pinned.checked.prog.wantsStandIn t = false := by
  obtain rfl : f = 6 := Option.some.inj ((show Tryd.prog.funcNamed Rows.fnExactSparseAtRow.func = some 6 by kernel_rfl).symm.trans hf) |>.symm
  obtain rfl : fn = Tryd.f6 := (Option.some.inj (Tryd.func6.symm.trans hfn)).symm
  refine ⟨by kernel_rfl, fun j t ht => ?_⟩
  rw [Tryd.params6] at ht
  have hm := Array.mem_of_getElem? ht
  have ht2 : t = 60 ∨ t = 3 := by simpa using hm
  rcases ht2 with rfl | rfl
  · exact (show Tryd.prog.wantsStandIn 60 = false by kernel_rfl)
  · exact (show Tryd.prog.wantsStandIn 3 = false by kernel_rfl)

theorem fnExactSparseAt_card : Rows.FnExactSparseAtCardSaid :=
  Claim7.holds_tied_plain_at .later [] _ _ _ _ fnExactSparseAt_holds (fun _ h => by cases h) (by kernel_rfl) (fun _ h => by cases h) fnExactSparseAt_row_tie rfl ⟨rfl, rfl⟩ (by kernel_rfl) rfl fnExactSparseAt_plain (by kernel_rfl)

end Go.Proofs.YtlbnngolcoefdaaDoor
