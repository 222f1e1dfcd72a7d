/- The program's Select. -/
import Derived.Test.YtoehgcakfblblaaDoorSel1
import Derived.Test.YtoehgcakfblblaaDoorSel4
import Derived.Test.YtoehgcakfblblaaDoorSel5
import Derived.Test.YtoehgcakfblblaaDoorSelMath2
import Derived.Test.YtoehgcakfblblaaDoorJoinMath
namespace Go.Proofs.YtoehgcakfblblaaDoor
open Go.RowKit
set_option maxRecDepth 100000

theorem tail_zero (n : Nat) (L : List Nat) (hl : L.length = (n + 63) / 64) (hw : ∀ x ∈ L, x < 2 ^ 64) (ht : tailB n L = true) (i : Nat) (hi : n ≤ i) : bitN L i = 0 := by
  have hd := valid_digits n L hl hw ht
  have hv := val_lt _ (bitsOf_bits n L)
  rw [bitsOf_len] at hv
  unfold bitN
  by_cases hj : i / 64 < L.length
  · have hg : L[i / 64]? = some (val (bitsOf n L) / 2 ^ (64 * (i / 64)) % 2 ^ 64) := by
      conv => lhs; rw [hd]
      exact digits_get _ _ _ hj
    rw [List.getD_eq_getElem?_getD, hg, Option.getD_some, bit_test, Nat.testBit_mod_two_pow, Nat.testBit_div_two_pow, show i % 64 + 64 * (i / 64) = i by omega,
      Nat.testBit_lt_two_pow (Nat.lt_of_lt_of_le hv (Nat.pow_le_pow_right (by omega) hi))]
    simp
  · rw [List.getD_eq_getElem?_getD, List.getElem?_eq_none (by omega), Option.getD_none]
    simp

/-- What selectOne found is the answer of Select. -/
theorem sel_one (M : List Nat) (n k i : Nat) (hz : ∀ j, n ≤ j → bitN M j = 0) (hb : bitN M i = 1) (hc : cnt M 1 i = k) : selI M 1 n k = i := by
  refine selI_some M 1 n k i ?_ (by omega) hc
  rcases Nat.lt_or_ge i n with h | h
  · exact h
  · have := hz i h
    omega
theorem sel_no (M : List Nat) (n k m : Nat) (hm : n ≤ m) (hc : cnt M 1 m ≤ k) : selI M 1 n k = -1 := by
  refine selI_none M 1 n k ?_
  obtain ⟨d, rfl⟩ : ∃ d, m = n + d := ⟨m - n, by omega⟩
  have := cnt_mono M 1 n d
  omega
theorem cnt_reach (L : List Nat) (b : Int) (k : Nat) : ∀ n, k < cnt L b n → ∃ i, i < n ∧ (bitN L i : Int) = b ∧ cnt L b i = k
  | 0, h => by simp [cnt] at h
  | n + 1, h => by
    by_cases hk : k < cnt L b n
    · obtain ⟨i, h1, h2, h3⟩ := cnt_reach L b k n hk
      exact ⟨i, by omega, h2, h3⟩
    · by_cases hb : (bitN L n : Int) = b
      · have := cnt_yes L b n hb
        exact ⟨n, by omega, hb, by omega⟩
      · have := cnt_no L b n hb
        omega
theorem sel_flip (n : Nat) (L : List Nat) (hl : L.length = (n + 63) / 64) (hw : ∀ x ∈ L, x < 2 ^ 64) (k : Nat) : selI (flipW n L) 1 n k = selI L 0 n k := by
  by_cases hk : k < cnt L 0 n
  · obtain ⟨i, h1, h2, h3⟩ := cnt_reach L 0 k n hk
    have e := bitN_flip n L hl hw i
    rw [if_pos h1] at e
    rw [selI_some L 0 n k i h1 h2 h3, selI_some (flipW n L) 1 n k i h1 (by omega) (by rw [cnt_flip n L hl hw i (by omega)]; exact h3)]
  · rw [selI_none L 0 n k (by omega), selI_none (flipW n L) 1 n k (by rw [cnt_flip n L hl hw n (Nat.le_refl _)]; omega)]

set_option maxHeartbeats 400000 in
theorem implSel_bad (N : Int) (A : Option Addr) (c : Nat) (L : List Nat) (b k : Int) (w : World) (hL : Lies w U A L) (hw : ∀ x ∈ L, x < 2 ^ 64) (hok : okB N L = false) :
    Calls Tryd.prog 51 #[.agg #[.int .i64 N, .slice A L.length c], .int .i64 b, .int .i64 k] w fun e w' => e = .returned (.int .i64 (-1)) ∧ Below w.heap.size w w' := by
  have HW := Lib.hid hw
  have HL := Lib.hid hL
  clear hw hL
  go_enter Tryd.func51, Tryd.ntmps51
  have sc : Scene w w [] := Scene.start w
  go_wp2_with fail
  replace sc := sc.box 46 #[.int .i64 N, .slice A L.length c]
  generalize w.alloc (Obj.cells #[.int .i64 N, .slice A L.length c] 46) = W0 at *
  refine (implOk_any N A c L _ (sc.liesOld HL.out) HW.out).mono ?_
  rintro e w1 ⟨rfl, hb⟩
  replace sc := sc.step hb
  rw [hok]
  clear hb hok
  have HB := Lib.hid sc.below
  clear sc
  go_wp2
  go_ret
  exact ⟨rfl, HB.out⟩

set_option maxHeartbeats 400000 in
theorem implSel_out (N : Int) (A : Option Addr) (c : Nat) (L : List Nat) (b k : Int) (w : World) (hL : Lies w U A L) (hw : ∀ x ∈ L, x < 2 ^ 64) (hok : okB N L = true) (hno : ¬ (b = 0 ∨ b = 1) ∨ k < 0) :
    Calls Tryd.prog 51 #[.agg #[.int .i64 N, .slice A L.length c], .int .i64 b, .int .i64 k] w fun e w' => e = .returned (.int .i64 (-1)) ∧ Below w.heap.size w w' := by
  have HW := Lib.hid hw
  have HL := Lib.hid hL
  clear hw hL
  go_enter Tryd.func51, Tryd.ntmps51
  have sc : Scene w w [] := Scene.start w
  go_wp2_with fail
  replace sc := sc.box 46 #[.int .i64 N, .slice A L.length c]
  generalize w.alloc (Obj.cells #[.int .i64 N, .slice A L.length c] 46) = W0 at *
  refine (implOk_any N A c L _ (sc.liesOld HL.out) HW.out).mono ?_
  rintro e w1 ⟨rfl, hb⟩
  replace sc := sc.step hb
  rw [hok]
  clear hb hok
  have HNo := Lib.hid hno
  clear hno
  go_wp2_with fail
  refine (isBit_sel b _).mono ?_
  rintro e w2 ⟨rfl, rfl⟩
  have HB := Lib.hid sc.below
  clear sc
  by_cases hb01 : b = 0 ∨ b = 1
  · rw [decide_eq_true hb01]
    have hi0 := HNo.out.resolve_left (fun h => h hb01)
    have d0 : decide (k < 0) = true := decide_eq_true hi0
    clear hb01
    go_wp2
    go_ret
    exact ⟨rfl, HB.out⟩
  · rw [decide_eq_false hb01]
    clear hb01
    go_wp2
    go_ret
    exact ⟨rfl, HB.out⟩

theorem flipW_lt (n : Nat) (L : List Nat) : ∀ x ∈ flipW n L, x < 2 ^ 64 := by
  intro x hx
  simp only [flipW, List.mem_map] at hx
  obtain ⟨j, _, rfl⟩ := hx
  exact Nat.lt_of_lt_of_le (Nat.mod_lt _ (Nat.two_pow_pos _)) (Nat.pow_le_pow_right (by omega) (by omega))

set_option maxHeartbeats 400000 in
theorem implSel_one (n : Nat) (A : Option Addr) (c : Nat) (L : List Nat) (k : Nat) (w : World) (hL : Lies w U A L) (hw : ∀ x ∈ L, x < 2 ^ 64) (hok : okB n L = true) (hk : k ≤ 9223372036854775807) (hn : n ≤ 5000) (Hl : Hid (L.length = (n + 63) / 64)) (Ht : Hid (tailB n L = true)) (hT : Tab w) :
    Calls Tryd.prog 51 #[.agg #[.int .i64 n, .slice A L.length c], .int .i64 1, .int .i64 k] w fun e w' => e = .returned (.int .i64 (selI L 1 n k)) ∧ Below w.heap.size w w' := by
  have HW := Lib.hid hw
  have HL := Lib.hid hL
  have HT := Lib.hid hT
  clear hw hL hT
  go_enter Tryd.func51, Tryd.ntmps51
  have sc : Stage w w [] := Stage.start w
  go_wp2_with fail
  replace sc := sc.box 46 #[.int .i64 n, .slice A L.length c]
  generalize w.alloc (Obj.cells #[.int .i64 n, .slice A L.length c] 46) = W0 at *
  refine (implOk_any n A c L _ (sc.liesOld HL.out) HW.out).mono ?_
  rintro e w1 ⟨rfl, hb⟩
  replace sc := sc.step hb
  rw [hok]
  clear hb hok
  go_wp2_with fail
  refine (isBit_sel 1 _).mono ?_
  rintro e w2 ⟨rfl, rfl⟩
  rw [decide_eq_true (show (1 : Int) = 0 ∨ (1 : Int) = 1 from .inr rfl)]
  obtain ⟨fa0, fa1, fal⟩ := sc.two 0 rfl
  go_wp2_with fail
  refine (selectOne_any A c L k _ (sc.liesOld HL.out) HW.out (by have := Hl.out; omega) hk (HT.out.below sc.below)).mono ?_
  rintro e w3 ⟨hres, hb⟩
  replace sc := sc.step hb
  have HB := Lib.hid sc.below
  clear hb sc fa0 fa1 fal
  rcases hres with ⟨i, h1, h2, h3, rfl⟩ | ⟨h1, rfl⟩
  · have HR := Lib.hid (sel_one L n k i (tail_zero n L Hl.out HW.out Ht.out) h2 h3)
    clear h1 h2 h3
    go_wp2
    go_ret
    exact ⟨ret_int HR.out.symm, HB.out⟩
  · have HR := Lib.hid (sel_no L n k (64 * L.length) (by have := Hl.out; omega) h1)
    clear h1
    go_wp2
    go_ret
    exact ⟨ret_int HR.out.symm, HB.out⟩

set_option maxHeartbeats 400000 in
theorem implSel_zero (n : Nat) (A : Option Addr) (c : Nat) (L : List Nat) (k : Nat) (w : World) (hL : Lies w U A L) (hw : ∀ x ∈ L, x < 2 ^ 64) (hok : okB n L = true) (hk : k ≤ 9223372036854775807) (hn : n ≤ 5000) (Hl : Hid (L.length = (n + 63) / 64)) (hT : Tab w) :
    Calls Tryd.prog 51 #[.agg #[.int .i64 n, .slice A L.length c], .int .i64 0, .int .i64 k] w fun e w' => e = .returned (.int .i64 (selI L 0 n k)) ∧ Below w.heap.size w w' := by
  have HW := Lib.hid hw
  have HL := Lib.hid hL
  have HT := Lib.hid hT
  clear hw hL hT
  go_enter Tryd.func51, Tryd.ntmps51
  have sc : Stage w w [] := Stage.start w
  go_wp2_with fail
  replace sc := sc.box 46 #[.int .i64 n, .slice A L.length c]
  generalize w.alloc (Obj.cells #[.int .i64 n, .slice A L.length c] 46) = W0 at *
  refine (implOk_any n A c L _ (sc.liesOld HL.out) HW.out).mono ?_
  rintro e w1 ⟨rfl, hb⟩
  replace sc := sc.step hb
  have HOk := Lib.hid hok
  rw [hok]
  clear hb hok
  go_wp2_with fail
  refine (isBit_sel 0 _).mono ?_
  rintro e w2 ⟨rfl, rfl⟩
  rw [decide_eq_true (show (0 : Int) = 0 ∨ (0 : Int) = 1 from .inl rfl)]
  obtain ⟨fa0, fa1, fal⟩ := sc.two 0 rfl
  go_wp2_with fail
  refine (implFlip_ok n A c L _ (sc.liesOld HL.out) HW.out HOk.out hn Hl).mono ?_
  rintro e w3 ⟨A3, c3, rfl, ho, hb⟩
  replace sc := sc.row hb ho
  clear hb ho fa0 fa1 fal
  obtain ⟨ga0, ga1, gal⟩ := sc.two 1 rfl
  have gf0 := (sc.getBox 1 rfl).frozen 0
  have gf1 := (sc.getBox 1 rfl).frozen 1
  replace sc := sc.put2 1 (g := w.heap.size) rfl (.int .i64 n) (.slice A3 (flipW n L).length c3)
  have sc2 : Stage w ((w3.setCell ⟨w.heap.size, 0, none⟩ (.int .i64 n)).setCell ⟨w.heap.size, 1, none⟩ (.slice A3 (flipW n L).length c3)) [.row 64 (.slice A3 (flipW n L).length c3) (flipW n L).length ((flipW n L).map U), .box w.heap.size 46 #[.int .i64 n, .slice A3 (flipW n L).length c3]] := sc
  clear sc
  go_wp2_with fail
  refine (selectOne_any A3 c3 (flipW n L) k _ (sc2.lies 0 rfl) (flipW_lt n L) (by rw [flipW_len]; have := Hl.out; omega) hk (HT.out.below sc2.below)).mono ?_
  rintro e w4 ⟨hres, hb⟩
  replace sc2 := sc2.step hb
  have HB := Lib.hid sc2.below
  clear hb sc2
  have HF := Lib.hid (sel_flip n L Hl.out HW.out k)
  rcases hres with ⟨i, h1, h2, h3, rfl⟩ | ⟨h1, rfl⟩
  · have HR := Lib.hid (sel_one (flipW n L) n k i (fun j hj => by rw [bitN_flip n L Hl.out HW.out, if_neg (by omega)]) h2 h3)
    clear h1 h2 h3
    go_wp2
    go_ret
    exact ⟨ret_int (by rw [← HF.out, HR.out]), HB.out⟩
  · have HR := Lib.hid (sel_no (flipW n L) n k (64 * (flipW n L).length) (by rw [flipW_len]; have := Hl.out; omega) h1)
    clear h1
    go_wp2
    go_ret
    exact ⟨ret_int (by rw [← HF.out, HR.out]), HB.out⟩

theorem implSel_any (N : Int) (A : Option Addr) (c : Nat) (L : List Nat) (b k : Int) (w : World) (hL : Lies w U A L) (hw : ∀ x ∈ L, x < 2 ^ 64) (hk : k ≤ 9223372036854775807) (hT : Tab w) :
    Calls Tryd.prog 51 #[.agg #[.int .i64 N, .slice A L.length c], .int .i64 b, .int .i64 k] w fun e w' => e = .returned (.int .i64 (selV N L b k)) ∧ Below w.heap.size w w' := by
  unfold selV
  cases hok : okB N L
  · rw [if_neg (fun h => by cases h.1)]
    exact implSel_bad N A c L b k w hL hw hok
  · by_cases hi : (b = 0 ∨ b = 1) ∧ 0 ≤ k
    · obtain ⟨n, rfl, hn, hl, ht⟩ := okB_nat hok
      obtain ⟨j, rfl⟩ := Int.eq_ofNat_of_zero_le hi.2
      rw [if_pos ⟨rfl, hi⟩]
      rcases hi.1 with rfl | rfl
      · exact implSel_zero n A c L j w hL hw hok (by omega) hn (Lib.hid hl) hT
      · exact implSel_one n A c L j w hL hw hok (by omega) hn (Lib.hid hl) (Lib.hid ht) hT
    · rw [if_neg (fun h => hi h.2)]
      refine implSel_out N A c L b k w hL hw hok ?_
      by_cases h : b = 0 ∨ b = 1
      · right; omega
      · exact .inl h

end Go.Proofs.YtoehgcakfblblaaDoor
