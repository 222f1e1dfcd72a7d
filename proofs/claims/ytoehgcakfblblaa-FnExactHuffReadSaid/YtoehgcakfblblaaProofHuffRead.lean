/- Proved: laws.FnExactHuffRead returns true at every bit vector, list of numbers and number that can be read, and leaves its arguments as they were. No condition. -/
import Derived.Test.YtoehgcakfblblaaLawHuffRead
import Derived.Test.YtoehgcakfblblaaOpen2
namespace Go.Proofs.Ytoehgcakfblblaa
open Go.ChangeShapes Go.WideShapes Go.ChangeAt Go.RowKit Go.Joins

set_option maxHeartbeats 400000 in
theorem lawHuffRead_big1 (N0 : Int) (A0 : Option Addr) (m0 c0 : Nat) (A1 : Option Addr) (m1 c1 : Nat) (n2 : Int) (w : World) (hbig : 1048576 < m1) :
    Calls Try.prog 13 #[.agg #[.int .i64 N0, .slice A0 m0 c0], .slice A1 m1 c1, .int .i64 n2] w fun e w' => e = .returned (.bool true) ∧ Below w.heap.size w w' := by
  have d1 : decide ((1048576 : Int) < (m1 : Int)) = true := by simp; omega
  go_enter Try.func13, Try.ntmps13
  go_wp2
  go_ret
  exact ⟨rfl, by go_grown⟩

set_option maxHeartbeats 400000 in
theorem lawHuffRead_big0 (N0 : Int) (A0 : Option Addr) (m0 c0 : Nat) (A1 : Option Addr) (m1 c1 : Nat) (n2 : Int) (w : World) (hm : m0 ≤ 9223372036854775807) (hs : m1 ≤ 1048576) (hbig : 1048576 < m0) :
    Calls Try.prog 13 #[.agg #[.int .i64 N0, .slice A0 m0 c0], .slice A1 m1 c1, .int .i64 n2] w fun e w' => e = .returned (.bool true) ∧ Below w.heap.size w w' := by
  have d1 : decide ((1048576 : Int) < (m1 : Int)) = false := by simp; omega
  have c1 := fun W => szBits_any N0 A0 m0 c0 1048576 W hm (by omega) (by omega)
  simp only [if_pos (show (1048576 : Int) < (m0 : Int) by omega)] at c1
  have C := Lib.hid c1
  clear c1
  go_enter Try.func13, Try.ntmps13
  go_wp2_with fail
  refine (C.out _).mono ?_
  rintro e w1 ⟨rfl, hb⟩
  have HB := Lib.hid hb
  clear hb
  go_wp2
  go_ret
  exact ⟨rfl, Below.trans (by go_grown) (HB.out.mono (by go_size))⟩

set_option maxRecDepth 100000 in
theorem fnExactHuffRead_lifted (os : Os) (started : os.Started) (H : Type) (enc : TypeId × Value → H) :
    ReturnsInHanded {} Try.checked os 13 .any (Rows.fnExactHuffReadSpec.pre6 enc Try.prog Try.f13 Rows.fnExactHuffReadRow.domain false) (Rows.fnExactHuffReadSpec.post enc Try.prog Try.f13 false true false false) := by
  refine law_lifted (C := Try.checked) Try.own started (by kernel_rfl) Try.func13
    (ChangeSpec.witness6 (enc := enc) (C := Try.checked) false ⟨#[], #[.agg #[.int .i64 0, .slice none 0 0], .slice none 0 0, .int .i64 0], []⟩ 8 (by kernel_rfl) (by kernel_rfl) (by kernel_rfl) (by kernel_rfl))
    Try.laidOut (by kernel_rfl) rfl rfl Try.underlying4 ?_ ?_
  · intro H ds hds
    match ds, hds with
    | [d1, d2, d3], _ => exact ⟨rfl, rfl, rfl⟩
  · intro W base args ds p hval0 hA0
    have hval : ∀ (j : Nat) t v, Try.f13.params[j]? = some t → args[j]? = some v → Value.okWide Try.prog W .any base t v := hval0
    have hA : DataW.TrodAll enc Try.prog W 0 (fun _ => true) true Try.f13.params.toList args.toList ds p := hA0
    rw [Try.params13] at hA hval
    obtain ⟨v0, v1, v2, d0, d1, d2, p0, p1, p2, rfl, rfl, rfl, h0, h1, h2⟩ := trodAll_three hA
    obtain ⟨N0, A0, c0, L0, rfl, _, hl0, hL0, hw0⟩ := open_bits (hval 0 54 v0 rfl rfl) h0
    obtain ⟨A1, c1, L1, rfl, hl1, hL1, _⟩ := open_intsArg (hval 1 24 v1 rfl rfl) h1
    obtain ⟨n2, rfl, rfl, rfl, _⟩ := open_int Try.underlying3 (hval 2 3 v2 rfl rfl) h2
    by_cases hb1 : 1048576 < L1.length
    · exact lawHuffRead_big1 N0 A0 L0.length c0 A1 L1.length c1 n2 W hb1
    by_cases hb0 : 1048576 < L0.length
    · exact lawHuffRead_big0 N0 A0 L0.length c0 A1 L1.length c1 n2 W hl0 (by omega) hb0
    exact lawHuffRead N0 A0 c0 L0 A1 c1 L1 n2 W hL0 hL1 hw0 (by omega) (by omega)

theorem fnExactHuffRead_holds : Rows.FnExactHuffReadSaid :=
  OpenClaim.holds_of_wide 13 Try.f13 rfl rfl rfl rfl rfl rfl rfl ⟨rfl, rfl, rfl, rfl, rfl⟩ rfl rfl rfl rfl rfl (by kernel_rfl) Try.func13 (by kernel_rfl)
    (of_decide_eq_true (by kernel_rfl)) (by unfold Func.isWrapper; first | (rw [if_pos (by decide +kernel)]; kernel_rfl) | (rw [if_neg (by decide +kernel)]; exact ⟨rfl, rfl⟩))
    (fun os started H enc _ => fnExactHuffRead_lifted os started H enc)

end Go.Proofs.Ytoehgcakfblblaa
