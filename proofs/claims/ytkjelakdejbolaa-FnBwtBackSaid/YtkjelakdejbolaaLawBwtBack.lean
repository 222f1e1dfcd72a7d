/- The law FnBwtBack walked. -/
import Derived.Test.YtkjelakdejbolaaSyD
import Derived.Test.YtkjelakdejbolaaSy6
import Derived.Test.YtkjelakdejbolaaSy11
import Derived.Test.YtkjelakdejbolaaSy4
import Derived.Test.YtkjelakdejbolaaSfEq
import Derived.Test.YtkjelakdejbolaaBytesNew
import Derived.Test.YtkjelakdejbolaaScene4
namespace Go.Proofs.Ytkjelakdejbolaa
open Go.RowKit
set_option maxRecDepth 100000

set_option maxHeartbeats 400000 in
theorem lawBwtBack_big (A : Option Addr) (n c : Nat) (w : World) (h : 1048576 < n) :
    Calls Try.prog 3 #[.slice A n c] w fun e w' => e = .returned (.bool true) ∧ Below w.heap.size w w' := by
  have C := Lib.hid (big_any A n c w)
  rw [decide_eq_true h] at C
  go_enter Try.func3, Try.ntmps3
  go_wp2_with fail
  refine C.out.mono ?_
  rintro e w1 ⟨rfl, rfl⟩
  go_wp2
  go_ret
  exact ⟨rfl, Below.refl _ _⟩

set_option maxHeartbeats 4000000 in
theorem lawBwtBack (A : Option Addr) (c : Nat) (D : List Nat) (w : World) (hD : Lies w B8 A D) (hw : ∀ x ∈ D, x < 2 ^ 8) (hl : D.length ≤ 1048576) :
    Calls Try.prog 3 #[.slice A D.length c] w fun e w' => e = .returned (.bool true) ∧ Below w.heap.size w w' := by
  have C := Lib.hid (big_any A D.length c w)
  rw [decide_eq_false (by omega)] at C
  have HD := Lib.hid hD
  have HW := Lib.hid hw
  clear hD hw
  go_enter Try.func3, Try.ntmps3
  go_wp2_with fail
  refine C.out.mono ?_
  rintro e w0 ⟨rfl, rfl⟩
  go_wp2_with fail
  refine (drawTextB_any A c D w HD.out HW.out hl).mono ?_
  rintro e w1 ⟨At, ct, T, rfl, hT, hT8, ho, hb⟩
  have sc := (Scene.start w).row hb ho
  have HT8 := Lib.hid hT8
  clear ho hb hT8 C
  go_wp2_with fail
  refine (bytesOf_new At ct T w1 (sc.lies 0 rfl) (own_tidy (sc.getRow 0 rfl)) (by omega)).mono ?_
  rintro e w2 ⟨Ab, cb, rfl, ho, hb⟩
  replace sc := sc.row hb ho
  clear ho hb
  go_wp2_with fail
  refine (implBwt_any Ab cb T w2 (sc.lies 0 rfl) HT8.out).mono ?_
  rintro e w3 ⟨Ar, cr, rfl, ho, hb⟩
  replace sc := sc.row hb ho
  clear ho hb
  obtain ⟨n, hn⟩ : ∃ n, T.length = n := ⟨_, rfl⟩
  have Hn := Lib.hid hn
  go_wp2_with fail
  refine (specTextOk_any At n ct w3).mono ?_
  rintro e w4 ⟨rfl, rfl⟩
  by_cases h3 : n ≤ 300
  · have hR : bwtV T = bwtL T := by unfold bwtV; rw [hn, if_pos h3]
    have hRl : (bwtL T).length = n + 1 := by rw [bwtL_len, hn]
    have t3 : decide (n ≤ 300) = true := by simpa using h3
    rw [t3]
    have hbt := bt_text HT8.out (by rw [hn]; exact h3)
    have HBt := Lib.hid (implBt_any Ar cr (bwtL T) w4 (by rw [← hR]; exact sc.lies 0 rfl))
    unfold BtEnd at HBt
    rw [hbt.1, hbt.2, hn, hRl] at HBt
    rw [hR] at sc ⊢
    obtain ⟨m, hm⟩ : ∃ m, n + 1 = m := ⟨_, rfl⟩
    rw [hRl, hm] at sc ⊢
    rw [hm] at HBt
    have Hm := Lib.hid hm
    have HRl := Lib.hid (hRl.trans hm)
    clear hR hRl t3 hbt
    go_wp2_with fail
    refine HBt.out.mono ?_
    rintro e w5 ⟨Ax, cx, rfl, ho, hb⟩
    have HX : Hid (Lies w5 B8 Ax T) := Lib.hid (by rw [← hn] at ho; exact Lies.of_own ho)
    have hXs := (own_tidy ho).shape
    replace sc := sc.step hb
    have HTw : Hid (Lies w5 B8 At T) := Lib.hid (sc.lies 2 rfl)
    have hTs := (own_tidy (sc.getRow 2 rfl)).shape
    have HRw : Hid (Lies w5 I Ar (bwtL T)) := Lib.hid (by
      have h := sc.getRow 0 rfl
      rw [← HRl.out] at h
      exact Lies.of_own h)
    have HB := Lib.hid sc.below
    clear ho hb HBt sc
    have c1 := conv_any (P := Try.prog) w5 22 5 9 Try.underlying22 Try.underlying5 Try.underlying9 Ax cx T hXs HX.out
    have c2 := conv_any (P := Try.prog) w5 22 5 9 Try.underlying22 Try.underlying5 Try.underlying9 At ct T hTs HTw.out
    have n1 : ((bstr T).toList == (bstr T).toList) = true := by simp
    rw [hn] at c1 c2
    generalize bstr T = S at *
    have HR1 := Lib.hid (implRuns_any Ar cr (bwtL T) w5 HRw.out)
    have HR2 := Lib.hid fun (W : World) (hb : Below w5.heap.size w5 W) => specRuns_any Ar cr (bwtL T) W (HRw.out.below hb)
    rw [HRl.out] at HR1 HR2
    have hmi : IntKind.i64.wrap ((n : Int) + 1) = (m : Int) := by rw [IntWalk.i64_in _ (by omega)]; omega
    have hmi2 : (n : Int) + 1 = (m : Int) := by omega
    obtain ⟨v, hv⟩ : ∃ v, runsV (bwtL T) = v := ⟨_, rfl⟩
    rw [hv] at HR1 HR2
    clear hn hm hv hXs hTs
    go_wp2_with fail
    refine HR1.out.mono ?_
    rintro e w6 ⟨rfl, hb6⟩
    have HB6 := Lib.hid hb6
    clear hb6
    go_wp2_with fail
    refine (HR2.out w6 HB6.out).mono ?_
    rintro e w7 ⟨rfl, hb7⟩
    have HB7 : Hid (Below w.heap.size w w7) := Lib.hid (below_then HB.out (below_then HB6.out hb7))
    clear hb7
    go_wp2
    go_ret
    exact ⟨rfl, HB7.out⟩
  · have hR : bwtV T = [] := by unfold bwtV; rw [hn, if_neg h3]
    have t3 : decide (n ≤ 300) = false := by simpa using h3
    rw [t3, hR]
    have HB := Lib.hid sc.below
    clear sc hR
    simp only [List.length_nil]
    go_wp2
    go_ret
    exact ⟨rfl, HB.out⟩

end Go.Proofs.Ytkjelakdejbolaa
