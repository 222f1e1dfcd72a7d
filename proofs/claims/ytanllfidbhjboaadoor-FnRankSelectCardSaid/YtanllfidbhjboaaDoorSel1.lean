/- The specification's Select. -/
import Derived.Test.YtanllfidbhjboaaDoorJoinMath
import Derived.Test.YtanllfidbhjboaaDoorSpec4
import Derived.Test.YtanllfidbhjboaaDoorStage
namespace Go.Proofs.YtanllfidbhjboaaDoor
open Go.RowKit
set_option maxRecDepth 100000

theorem list_new2 (n : Nat) (A : Option Addr) (c : Nat) (L : List Nat) (w : World) (hL : Lies w U A L) (hl : L.length = (n + 63) / 64) (hn : n ≤ 5000) (hw : ∀ x ∈ L, x < 2 ^ 64) :
    Calls Tryd.prog 39 #[.agg #[.int .i64 n, .slice A L.length c]] w fun e w' => ∃ A' c', e = .returned (.slice A' n c') ∧ w'.ownsRow w.heap.size 3 1 (.slice A' n c') n ((bitsOf n L).map I) ∧ Below w.heap.size w w' :=
  (list_any n A c L w hL (by omega) hn (by omega) hw).mono fun e w' h => by
    obtain ⟨v, he, ho, hb⟩ := h
    obtain ⟨A', c', rfl⟩ := own_slice ho
    exact ⟨A', c', he, ho, hb⟩

theorem specBit2 (b : Int) (w : World) :
    Calls Tryd.prog 38 #[.int .i64 b] w fun e w' => e = .returned (.bool (decide (b = 0 ∨ b = 1))) ∧ w = w' := by
  by_cases h0 : b = 0
  · subst h0
    go_enter Tryd.func38, Tryd.ntmps38
    go_wp2
    go_ret
    exact ⟨rfl, rfl⟩
  · have t0 : (b == 0) = false := by rw [beq_eq_false_iff_ne]; exact h0
    by_cases h1 : b = 1
    · subst h1
      clear h0 t0
      go_enter Tryd.func38, Tryd.ntmps38
      go_wp2
      go_ret
      exact ⟨rfl, rfl⟩
    · have t1 : (b == 1) = false := by rw [beq_eq_false_iff_ne]; exact h1
      have HF := Lib.hid (decide_eq_false (show ¬ (b = 0 ∨ b = 1) by omega))
      clear h0 h1
      go_enter Tryd.func38, Tryd.ntmps38
      go_wp2
      go_ret
      exact ⟨ret_bool HF.out.symm, rfl⟩

set_option maxHeartbeats 400000 in
theorem specSel_bad (N : Int) (A : Option Addr) (c : Nat) (L : List Nat) (b k : Int) (w : World) (hL : Lies w U A L) (hw : ∀ x ∈ L, x < 2 ^ 64) (hok : okB N L = false) :
    Calls Tryd.prog 10 #[.agg #[.int .i64 N, .slice A L.length c], .int .i64 b, .int .i64 k] w fun e w' => e = .returned (.int .i64 (-1)) ∧ Below w.heap.size w w' := by
  have HW := Lib.hid hw
  have HL := Lib.hid hL
  clear hw hL
  go_enter Tryd.func10, Tryd.ntmps10
  have sc : Scene w w [] := Scene.start w
  go_wp2_with fail
  replace sc := sc.box 26 #[.int .i64 N, .slice A L.length c]
  generalize w.alloc (Obj.cells #[.int .i64 N, .slice A L.length c] 26) = W0 at *
  refine (specOk_any N A c L _ (sc.liesOld HL.out) HW.out).mono ?_
  rintro e w1 ⟨rfl, hb⟩
  replace sc := sc.step hb
  rw [hok]
  clear hb hok
  have HB := Lib.hid sc.below
  clear sc
  go_wp2
  go_ret
  exact ⟨rfl, HB.out⟩

set_option maxHeartbeats 400000 in
theorem specSel_out (N : Int) (A : Option Addr) (c : Nat) (L : List Nat) (b k : Int) (w : World) (hL : Lies w U A L) (hw : ∀ x ∈ L, x < 2 ^ 64) (hok : okB N L = true) (hno : ¬ (b = 0 ∨ b = 1) ∨ k < 0) :
    Calls Tryd.prog 10 #[.agg #[.int .i64 N, .slice A L.length c], .int .i64 b, .int .i64 k] w fun e w' => e = .returned (.int .i64 (-1)) ∧ Below w.heap.size w w' := by
  have HW := Lib.hid hw
  have HL := Lib.hid hL
  clear hw hL
  go_enter Tryd.func10, Tryd.ntmps10
  have sc : Scene w w [] := Scene.start w
  go_wp2_with fail
  replace sc := sc.box 26 #[.int .i64 N, .slice A L.length c]
  generalize w.alloc (Obj.cells #[.int .i64 N, .slice A L.length c] 26) = W0 at *
  refine (specOk_any N A c L _ (sc.liesOld HL.out) HW.out).mono ?_
  rintro e w1 ⟨rfl, hb⟩
  replace sc := sc.step hb
  rw [hok]
  clear hb hok
  have HNo := Lib.hid hno
  clear hno
  go_wp2_with fail
  refine (specBit2 b _).mono ?_
  rintro e w2 ⟨rfl, rfl⟩
  have HB := Lib.hid sc.below
  clear sc
  by_cases hb01 : b = 0 ∨ b = 1
  · rw [decide_eq_true hb01]
    have hi0 := HNo.out.resolve_left (fun h => h hb01)
    have d0 : decide (k < 0) = true := decide_eq_true hi0
    clear hb01
    go_wp2
    go_ret
    exact ⟨rfl, HB.out⟩
  · rw [decide_eq_false hb01]
    clear hb01
    go_wp2
    go_ret
    exact ⟨rfl, HB.out⟩

/-- The answer of Select as a number. -/
def selI (L : List Nat) (b : Int) (n k : Nat) : Int := match selN L b n k with | some i => (i : Int) | none => -1
theorem selI_some (L : List Nat) (b : Int) (n k i : Nat) (hi : i < n) (hb : (bitN L i : Int) = b) (hc : cnt L b i = k) : selI L b n k = i := by unfold selI; rw [selN_some L b n k i hi hb hc]
theorem selI_none (L : List Nat) (b : Int) (n k : Nat) (h : cnt L b n ≤ k) : selI L b n k = -1 := by unfold selI; rw [selN_none L b n k h]

set_option maxHeartbeats 400000 in
theorem specSel_in (n : Nat) (A : Option Addr) (c : Nat) (L : List Nat) (b : Int) (k : Nat) (w : World) (hL : Lies w U A L) (hw : ∀ x ∈ L, x < 2 ^ 64) (hok : okB n L = true) (Hb : Hid (b = 0 ∨ b = 1)) (hk63 : k ≤ 9223372036854775807) (hn : n ≤ 5000) (Hl : Hid (L.length = (n + 63) / 64)) :
    Calls Tryd.prog 10 #[.agg #[.int .i64 n, .slice A L.length c], .int .i64 b, .int .i64 k] w fun e w' => e = .returned (.int .i64 (selI L b n k)) ∧ Below w.heap.size w w' := by
  have HW := Lib.hid hw
  have HL := Lib.hid hL
  clear hw hL
  go_enter Tryd.func10, Tryd.ntmps10
  have sc : Scene w w [] := Scene.start w
  go_wp2_with fail
  replace sc := sc.box 26 #[.int .i64 n, .slice A L.length c]
  generalize w.alloc (Obj.cells #[.int .i64 n, .slice A L.length c] 26) = W0 at *
  refine (specOk_any n A c L _ (sc.liesOld HL.out) HW.out).mono ?_
  rintro e w1 ⟨rfl, hb⟩
  replace sc := sc.step hb
  rw [hok]
  clear hb hok
  go_wp2_with fail
  refine (specBit2 b _).mono ?_
  rintro e w2 ⟨rfl, rfl⟩
  rw [decide_eq_true Hb.out]
  obtain ⟨fa0, fa1, fal⟩ := sc.two 0 rfl
  go_wp2_with fail
  refine (list_new2 n A c L _ (sc.liesOld HL.out) Hl.out hn HW.out).mono ?_
  rintro e w3 ⟨A3, c3, rfl, ho, hb⟩
  replace sc := sc.row hb ho
  have HX := Lib.hid (sc.lies (f := I) 0 rfl)
  have HB := Lib.hid sc.below
  clear hb ho sc fa0 fa1 fal
  go_wp2
  go_loop [2, 8] (fun q j => ∃ i z : Nat, i ≤ n ∧ j = .int .i64 i ∧ q = .int .i64 z ∧ cnt L b i + z = k) (fun _ j => n - (intOf j).toNat)
  case atStart => exact ⟨0, k, Nat.zero_le _, rfl, rfl, Nat.zero_add _⟩
  case round =>
    obtain ⟨i, z, hi, rfl, rfl, hz⟩ := hrel
    by_cases hlt : i < n
    · obtain ⟨bl, o, x, rfl, _, hx, hc⟩ := HX.out.at_ (i := i) (by rw [bitsOf_len]; omega)
      rw [bitsOf_get n L i (by omega)] at hx
      obtain rfl : (bitN L i : Int) = x := by simpa using hx
      clear hx
      by_cases he : (bitN L i : Int) = b
      · have HE := Lib.hid (cnt_yes L b i he)
        have t : ((bitN L i : Int) == b) = true := by rw [beq_iff_eq]; exact he
        by_cases h0 : z = 0
        · subst h0
          have HR := Lib.hid (selI_some L b n k i hlt he (by omega))
          generalize hzz : (bitN L i : Int) = zz at *
          go_wp2
          go_ret
          exact ⟨ret_int HR.out.symm, HB.out⟩
        · have t0 : ((z : Int) == 0) = false := by rw [beq_eq_false_iff_ne]; omega
          generalize hzz : (bitN L i : Int) = zz at *
          go_wp2
          go_round
          case rel => exact ⟨i + 1, z - 1, by omega, by go_num, by go_num, by rw [HE.out]; omega⟩
          case measure => simp [intOf]; omega
      · have HE := Lib.hid (cnt_no L b i he)
        have t : ((bitN L i : Int) == b) = false := by rw [beq_eq_false_iff_ne]; exact he
        generalize hzz : (bitN L i : Int) = zz at *
        go_wp2
        go_round
        case rel => exact ⟨i + 1, z, by omega, by go_num, rfl, by rw [HE.out]; exact hz⟩
        case measure => simp [intOf]; omega
    · have e : i = n := by omega
      subst e
      have HR := Lib.hid (selI_none L b i k (by omega))
      go_wp2
      go_ret
      exact ⟨ret_int HR.out.symm, HB.out⟩

theorem specSel_any (N : Int) (A : Option Addr) (c : Nat) (L : List Nat) (b k : Int) (w : World) (hL : Lies w U A L) (hw : ∀ x ∈ L, x < 2 ^ 64) (hk : k ≤ 9223372036854775807) :
    Calls Tryd.prog 10 #[.agg #[.int .i64 N, .slice A L.length c], .int .i64 b, .int .i64 k] w fun e w' => e = .returned (.int .i64 (selV N L b k)) ∧ Below w.heap.size w w' := by
  unfold selV
  cases hok : okB N L
  · rw [if_neg (fun h => by cases h.1)]
    exact specSel_bad N A c L b k w hL hw hok
  · by_cases hi : (b = 0 ∨ b = 1) ∧ 0 ≤ k
    · obtain ⟨n, rfl, hn, hl, _⟩ := okB_nat hok
      obtain ⟨j, rfl⟩ := Int.eq_ofNat_of_zero_le hi.2
      rw [if_pos ⟨rfl, hi⟩]
      exact specSel_in n A c L b j w hL hw hok (Lib.hid hi.1) (by omega) hn (Lib.hid hl)
    · rw [if_neg (fun h => hi h.2)]
      refine specSel_out N A c L b k w hL hw hok ?_
      by_cases h : b = 0 ∨ b = 1
      · right; omega
      · exact .inl h

end Go.Proofs.YtanllfidbhjboaaDoor
