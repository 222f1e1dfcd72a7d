import Derived.Test.YtoehgcakfblblaaWvMath2
import Derived.Test.YtoehgcakfblblaaJoin2
import Derived.Test.YtoehgcakfblblaaSel5
import Derived.Test.YtoehgcakfblblaaImpl2
/- The specification's Rank. -/
namespace Go.Proofs.Ytoehgcakfblblaa
open Go.RowKit
set_option maxRecDepth 100000

theorem specBit_any (b : Int) (w : World) :
    Calls Try.prog 134 #[.int .i64 b] w fun e w' => e = .returned (.bool (decide (b = 0 ∨ b = 1))) ∧ w = w' := by
  by_cases h0 : b = 0
  · subst h0
    go_enter Try.func134, Try.ntmps134
    go_wp2
    go_ret
    exact ⟨rfl, rfl⟩
  · have t0 : (b == 0) = false := by rw [beq_eq_false_iff_ne]; exact h0
    by_cases h1 : b = 1
    · subst h1
      clear h0 t0
      go_enter Try.func134, Try.ntmps134
      go_wp2
      go_ret
      exact ⟨rfl, rfl⟩
    · have t1 : (b == 1) = false := by rw [beq_eq_false_iff_ne]; exact h1
      have HF := Lib.hid (decide_eq_false (show ¬ (b = 0 ∨ b = 1) by omega))
      clear h0 h1
      go_enter Try.func134, Try.ntmps134
      go_wp2
      go_ret
      exact ⟨ret_bool HF.out.symm, rfl⟩

set_option maxHeartbeats 400000 in
theorem specRank_bad (N : Int) (A : Option Addr) (c : Nat) (L : List Nat) (b i : Int) (w : World) (hL : Lies w U A L) (hw : ∀ x ∈ L, x < 2 ^ 64) (hok : okB N L = false) :
    Calls Try.prog 123 #[.agg #[.int .i64 N, .slice A L.length c], .int .i64 b, .int .i64 i] w fun e w' => e = .returned (.int .i64 (-1)) ∧ Below w.heap.size w w' := by
  have HW := Lib.hid hw
  have HL := Lib.hid hL
  clear hw hL
  go_enter Try.func123, Try.ntmps123
  have sc : Scene w w [] := Scene.start w
  go_wp2_with fail
  replace sc := sc.box 44 #[.int .i64 N, .slice A L.length c]
  generalize w.alloc (Obj.cells #[.int .i64 N, .slice A L.length c] 44) = W0 at *
  refine (specOk_any N A c L _ (sc.liesOld HL.out) HW.out).mono ?_
  rintro e w1 ⟨rfl, hb⟩
  replace sc := sc.step hb
  rw [hok]
  clear hb hok
  have HB := Lib.hid sc.below
  clear sc
  go_wp2
  go_ret
  exact ⟨rfl, HB.out⟩

set_option maxHeartbeats 400000 in
theorem specRank_out (N : Int) (A : Option Addr) (c : Nat) (L : List Nat) (b i : Int) (w : World) (hL : Lies w U A L) (hw : ∀ x ∈ L, x < 2 ^ 64) (hok : okB N L = true) (hno : ¬ (b = 0 ∨ b = 1) ∨ i < 0 ∨ N < i) :
    Calls Try.prog 123 #[.agg #[.int .i64 N, .slice A L.length c], .int .i64 b, .int .i64 i] w fun e w' => e = .returned (.int .i64 (-1)) ∧ Below w.heap.size w w' := by
  have HW := Lib.hid hw
  have HL := Lib.hid hL
  clear hw hL
  go_enter Try.func123, Try.ntmps123
  have sc : Scene w w [] := Scene.start w
  go_wp2_with fail
  replace sc := sc.box 44 #[.int .i64 N, .slice A L.length c]
  generalize w.alloc (Obj.cells #[.int .i64 N, .slice A L.length c] 44) = W0 at *
  refine (specOk_any N A c L _ (sc.liesOld HL.out) HW.out).mono ?_
  rintro e w1 ⟨rfl, hb⟩
  replace sc := sc.step hb
  rw [hok]
  clear hb hok
  have HNo := Lib.hid hno
  clear hno
  go_wp2_with fail
  refine (specBit_any b _).mono ?_
  rintro e w2 ⟨rfl, rfl⟩
  have HB := Lib.hid sc.below
  obtain ⟨fa0, fa1, fal⟩ := sc.two 0 rfl
  clear sc
  by_cases hb01 : b = 0 ∨ b = 1
  · rw [decide_eq_true hb01]
    have hi := HNo.out.resolve_left (fun h => h hb01)
    by_cases hi0 : i < 0
    · have d0 : decide (i < 0) = true := decide_eq_true hi0
      clear hb01 hi
      go_wp2
      go_ret
      exact ⟨rfl, HB.out⟩
    · have d0 : decide (i < 0) = false := decide_eq_false hi0
      have hN : N < i := hi.resolve_left hi0
      have d1 : decide (N < i) = true := decide_eq_true hN
      clear hb01 hi
      go_wp2
      go_ret
      exact ⟨rfl, HB.out⟩
  · rw [decide_eq_false hb01]
    clear hb01
    go_wp2
    go_ret
    exact ⟨rfl, HB.out⟩

set_option maxHeartbeats 400000 in
theorem specRank_in (n : Nat) (A : Option Addr) (c : Nat) (L : List Nat) (b : Int) (i : Nat) (w : World) (hL : Lies w U A L) (hw : ∀ x ∈ L, x < 2 ^ 64) (hok : okB n L = true) (Hb : Hid (b = 0 ∨ b = 1)) (hi : i ≤ n) (hn : n ≤ 5000) (Hl : Hid (L.length = (n + 63) / 64)) :
    Calls Try.prog 123 #[.agg #[.int .i64 n, .slice A L.length c], .int .i64 b, .int .i64 i] w fun e w' => e = .returned (.int .i64 (cnt L b i)) ∧ Below w.heap.size w w' := by
  have HW := Lib.hid hw
  have HL := Lib.hid hL
  clear hw hL
  go_enter Try.func123, Try.ntmps123
  have sc : Scene w w [] := Scene.start w
  go_wp2_with fail
  replace sc := sc.box 44 #[.int .i64 n, .slice A L.length c]
  generalize w.alloc (Obj.cells #[.int .i64 n, .slice A L.length c] 44) = W0 at *
  refine (specOk_any n A c L _ (sc.liesOld HL.out) HW.out).mono ?_
  rintro e w1 ⟨rfl, hb⟩
  replace sc := sc.step hb
  rw [hok]
  clear hb hok
  go_wp2_with fail
  refine (specBit_any b _).mono ?_
  rintro e w2 ⟨rfl, rfl⟩
  rw [decide_eq_true Hb.out]
  obtain ⟨fa0, fa1, fal⟩ := sc.two 0 rfl
  go_wp2_with fail
  refine (list_new n A c L _ (sc.liesOld HL.out) Hl.out hn HW.out).mono ?_
  rintro e w3 ⟨A3, c3, rfl, ho, hb⟩
  replace sc := sc.row hb ho
  have HX := Lib.hid (sc.lies (f := I) 0 rfl)
  have HB := Lib.hid sc.below
  clear hb ho sc fa0 fa1 fal
  go_wp2
  go_loop [8, 9] (fun q j => ∃ k : Nat, k ≤ i ∧ j = .int .i64 k ∧ q = .int .i64 (cnt L b k)) (fun _ j => i - (intOf j).toNat)
  case atStart => exact ⟨0, Nat.zero_le _, rfl, rfl⟩
  case round =>
    obtain ⟨k, hk, rfl, rfl⟩ := hrel
    have hck := cnt_le L b k
    by_cases hlt : k < i
    · obtain ⟨bl, o, x, rfl, _, hx, hc⟩ := HX.out.at_ (i := k) (by rw [bitsOf_len]; omega)
      rw [bitsOf_get n L k (by omega)] at hx
      obtain rfl : (bitN L k : Int) = x := by simpa using hx
      clear hx
      by_cases he : (bitN L k : Int) = b
      · have HE := Lib.hid (cnt_yes L b k he)
        have t : ((bitN L k : Int) == b) = true := by rw [beq_iff_eq]; exact he
        generalize hz : (bitN L k : Int) = z at *
        go_wp2
        go_round
        case rel => exact ⟨k + 1, by omega, by go_num, by rw [HE.out]; go_num⟩
        case measure => simp [intOf]; omega
      · have HE := Lib.hid (cnt_no L b k he)
        have t : ((bitN L k : Int) == b) = false := by rw [beq_eq_false_iff_ne]; exact he
        generalize hz : (bitN L k : Int) = z at *
        go_wp2
        go_round
        case rel => exact ⟨k + 1, by omega, by go_num, by rw [HE.out]⟩
        case measure => simp [intOf]; omega
    · have e : k = i := by omega
      subst e
      go_wp2
      go_ret
      exact ⟨rfl, HB.out⟩

theorem specRank_any (N : Int) (A : Option Addr) (c : Nat) (L : List Nat) (b i : Int) (w : World) (hL : Lies w U A L) (hw : ∀ x ∈ L, x < 2 ^ 64) :
    Calls Try.prog 123 #[.agg #[.int .i64 N, .slice A L.length c], .int .i64 b, .int .i64 i] w fun e w' => e = .returned (.int .i64 (rankV N L b i)) ∧ Below w.heap.size w w' := by
  unfold rankV
  cases hok : okB N L
  · rw [if_neg (fun h => by cases h.1)]
    exact specRank_bad N A c L b i w hL hw hok
  · by_cases hi : (b = 0 ∨ b = 1) ∧ 0 ≤ i ∧ i ≤ N
    · obtain ⟨n, rfl, hn, hl, _⟩ := okB_nat hok
      obtain ⟨j, rfl⟩ := Int.eq_ofNat_of_zero_le hi.2.1
      rw [if_pos ⟨rfl, hi⟩]
      exact specRank_in n A c L b j w hL hw hok (Lib.hid hi.1) (by omega) hn (Lib.hid hl)
    · rw [if_neg (fun h => hi h.2)]
      refine specRank_out N A c L b i w hL hw hok ?_
      by_cases h : b = 0 ∨ b = 1
      · right; omega
      · exact .inl h

end Go.Proofs.Ytoehgcakfblblaa

/- The program's Rank, where it returns -1. -/
namespace Go.Proofs.Ytoehgcakfblblaa
open Go.RowKit
set_option maxRecDepth 100000

set_option maxHeartbeats 400000 in
theorem implRank_bad (N : Int) (A : Option Addr) (c : Nat) (L : List Nat) (b i : Int) (w : World) (hL : Lies w U A L) (hw : ∀ x ∈ L, x < 2 ^ 64) (hok : okB N L = false) :
    Calls Try.prog 68 #[.agg #[.int .i64 N, .slice A L.length c], .int .i64 b, .int .i64 i] w fun e w' => e = .returned (.int .i64 (-1)) ∧ Below w.heap.size w w' := by
  have HW := Lib.hid hw
  have HL := Lib.hid hL
  clear hw hL
  go_enter Try.func68, Try.ntmps68
  have sc : Scene w w [] := Scene.start w
  go_wp2_with fail
  replace sc := sc.box 44 #[.int .i64 N, .slice A L.length c]
  generalize w.alloc (Obj.cells #[.int .i64 N, .slice A L.length c] 44) = W0 at *
  refine (implOk_any N A c L _ (sc.liesOld HL.out) HW.out).mono ?_
  rintro e w1 ⟨rfl, hb⟩
  replace sc := sc.step hb
  rw [hok]
  clear hb hok
  have HB := Lib.hid sc.below
  clear sc
  go_wp2
  go_ret
  exact ⟨rfl, HB.out⟩

set_option maxHeartbeats 400000 in
theorem implRank_out (N : Int) (A : Option Addr) (c : Nat) (L : List Nat) (b i : Int) (w : World) (hL : Lies w U A L) (hw : ∀ x ∈ L, x < 2 ^ 64) (hok : okB N L = true) (hno : ¬ (b = 0 ∨ b = 1) ∨ i < 0 ∨ N < i) :
    Calls Try.prog 68 #[.agg #[.int .i64 N, .slice A L.length c], .int .i64 b, .int .i64 i] w fun e w' => e = .returned (.int .i64 (-1)) ∧ Below w.heap.size w w' := by
  have HW := Lib.hid hw
  have HL := Lib.hid hL
  clear hw hL
  go_enter Try.func68, Try.ntmps68
  have sc : Scene w w [] := Scene.start w
  go_wp2_with fail
  replace sc := sc.box 44 #[.int .i64 N, .slice A L.length c]
  generalize w.alloc (Obj.cells #[.int .i64 N, .slice A L.length c] 44) = W0 at *
  refine (implOk_any N A c L _ (sc.liesOld HL.out) HW.out).mono ?_
  rintro e w1 ⟨rfl, hb⟩
  replace sc := sc.step hb
  rw [hok]
  clear hb hok
  have HNo := Lib.hid hno
  clear hno
  go_wp2_with fail
  refine (isBit_sel b _).mono ?_
  rintro e w2 ⟨rfl, rfl⟩
  have HB := Lib.hid sc.below
  obtain ⟨fa0, fa1, fal⟩ := sc.two 0 rfl
  clear sc
  by_cases hb01 : b = 0 ∨ b = 1
  · rw [decide_eq_true hb01]
    have hi := HNo.out.resolve_left (fun h => h hb01)
    by_cases hi0 : i < 0
    · have d0 : decide (i < 0) = true := decide_eq_true hi0
      clear hb01 hi
      go_wp2
      go_ret
      exact ⟨rfl, HB.out⟩
    · have d0 : decide (i < 0) = false := decide_eq_false hi0
      have hN : N < i := hi.resolve_left hi0
      have d1 : decide (N < i) = true := decide_eq_true hN
      clear hb01 hi
      go_wp2
      go_ret
      exact ⟨rfl, HB.out⟩
  · rw [decide_eq_false hb01]
    clear hb01
    go_wp2
    go_ret
    exact ⟨rfl, HB.out⟩

end Go.Proofs.Ytoehgcakfblblaa
