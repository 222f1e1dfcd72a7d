import Derived.Test.YtlbnngolcoefdaaDoorFlipMath
import Derived.Test.YtlbnngolcoefdaaDoorPk1
import Derived.Test.YtlbnngolcoefdaaDoorBitMath2
import Derived.Test.YtlbnngolcoefdaaDoorLaws5
import Derived.Test.YtlbnngolcoefdaaDoorRankMath
import Derived.Test.YtlbnngolcoefdaaDoorSp4
import Derived.Test.YtlbnngolcoefdaaDoorDraw1
/- Pieces of other texts that the door seat's program has: isBit, the program's BitsFlip, the laws' copies and comparisons. -/
namespace Go.Proofs.YtlbnngolcoefdaaDoor
open Go.RowKit
set_option maxRecDepth 100000

set_option maxHeartbeats 400000 in
theorem isBit_sel (b : Int) (w : World) :
    Calls Tryd.prog 100 #[.int .i64 b] w fun e w' => e = .returned (.bool (decide (b = 0 ∨ b = 1))) ∧ w = w' := by
  by_cases h0 : b = 0
  · subst h0
    go_enter Tryd.func100, Tryd.ntmps100
    go_wp2
    go_ret
    exact ⟨rfl, rfl⟩
  · have t0 : (b == 0) = false := by rw [beq_eq_false_iff_ne]; exact h0
    by_cases h1 : b = 1
    · subst h1
      go_enter Tryd.func100, Tryd.ntmps100
      go_wp2
      go_ret
      exact ⟨rfl, rfl⟩
    · have t1 : (b == 1) = false := by rw [beq_eq_false_iff_ne]; exact h1
      have HF := Lib.hid (decide_eq_false (show ¬ (b = 0 ∨ b = 1) by omega))
      clear h0 h1
      go_enter Tryd.func100, Tryd.ntmps100
      go_wp2
      go_ret
      exact ⟨ret_bool HF.out.symm, rfl⟩

theorem toBits_new (N : Int) (A : Option Addr) (c : Nat) (L : List Nat) (w : World) (hL : Lies w U A L) (hn : L.length ≤ 17592186044416) :
    Calls Tryd.prog 82 #[.agg #[.int .i64 N, .slice A L.length c]] w (NewBits1 w N L) :=
  (toBits_any N A c L w hL hn).mono fun _ _ h => ⟨_, _, h.1, h.2.1, h.2.2⟩

theorem eqBits_true (N : Int) (A B : Option Addr) (c d : Nat) (L : List Nat) (w : World) (hL : Lies w U A L) (hK : Lies w U B L) (hn : L.length ≤ 17592186044416) :
    Calls Tryd.prog 84 #[.agg #[.int .i64 N, .slice A L.length c], .agg #[.int .i64 N, .slice B L.length d]] w fun e w' => e = .returned (.bool true) ∧ Below w.heap.size w w' :=
  (eqBits_any N N A B c d L L w hL hK hn).mono fun _ _ h => ⟨by rw [h.1, decide_eq_true ⟨rfl, rfl⟩], h.2⟩

set_option maxHeartbeats 400000 in
theorem implFlip_ok (n : Nat) (A : Option Addr) (c : Nat) (L : List Nat) (w : World) (hL : Lies w U A L) (hw : ∀ x ∈ L, x < 2 ^ 64) (hok : okB n L = true) (hn : n ≤ 5000) (Hl : Hid (L.length = (n + 63) / 64)) :
    Calls Tryd.prog 102 #[.agg #[.int .i64 n, .slice A L.length c]] w (NewBits1 w n (flipW n L)) := by
  have HW := Lib.hid hw
  clear hw
  have hl79 : L.length ≤ 79 := by rw [Hl.out]; omega
  have hmk := fun W => run_make_row' (P := Tryd.prog) 27 113 (.int .u64 0) 8 Tryd.underlying27 Tryd.infoU64 rfl .i64 .i64 L.length (by omega) (by omega) W
  go_enter Tryd.func102, Tryd.ntmps102
  go_wp2_with fail
  generalize hW0 : (w.alloc (Obj.cells #[Value.int IntKind.i64 n, Value.slice A L.length c] 29)).alloc (Obj.cells #[Value.int IntKind.i64 0, Value.slice none 0 0] 29) = W0
  have hr0 : Box W0 (w.heap.size + 1) 29 #[.int .i64 0, .slice none 0 0] := by
    have h := Box.made (w.alloc (Obj.cells #[Value.int IntKind.i64 n, Value.slice A L.length c] 29)) 29 #[Value.int IntKind.i64 0, Value.slice none 0 0]
    rw [World.size_alloc] at h
    rw [← hW0]; exact h
  have hx0 : Box W0 w.heap.size 29 #[.int .i64 n, .slice A L.length c] := by
    rw [← hW0]; exact (Box.made _ _ _).alloc _
  have hb0 : Below w.heap.size w W0 := by rw [← hW0]; go_grown
  clear hW0
  refine (implOk_any n A c L _ (hL.below hb0) HW.out).mono ?_
  rintro e w1 ⟨rfl, hb⟩
  rw [hok]
  have hr1 := hr0.below hb hr0.lt
  have hx1 := hx0.below hb hx0.lt
  have hb1 := below_then hb0 hb
  have f0 := hx1.cell 0
  have f1 := hx1.cell 1
  simp only [List.getElem?_toArray, List.getElem?_cons_zero, List.getElem?_cons_succ] at f0 f1
  have hS1 := hx1.lt
  have hR1 := hr1.lt
  have HL1 := Lib.hid (hL.below hb1)
  have HB1 := Lib.hid hb1
  have Hr1 := Lib.hid hr1
  clear hb hL hok hr0 hx0 hb0 hx1 hr1 hb1
  go_wp2
  go_loopw [18] (fun i wr => ∃ k : Nat, k ≤ L.length ∧ i = .int .i64 k ∧ wr.ownsRow w1.heap.size 113 1 (.slice (some ⟨w1.heap.size, 0, none⟩) L.length L.length) L.length (copied U (U 0) (flipW n L) k) ∧ Below w1.heap.size w1 wr) (fun i _ => L.length - (intOf i).toNat)
  case atStart =>
    refine ⟨0, Nat.zero_le _, rfl, ?_, (Below.refl _ _).alloc (Nat.le_refl _) _⟩
    rw [copied_zero, flipW_len, ← toList_madeCells_one]
    exact World.ownsRow_lit w1 _ _ (Nat.le_refl _) (by unfold maxLen; omega) (by simp [size_madeCells])
  case round =>
    obtain ⟨k, hk, rfl, hown, hb⟩ := hrel
    clear hmk
    have g0 := (hb.cell (p := ⟨w.heap.size, 0, none⟩) hS1).trans f0
    by_cases hlt : k < L.length
    · obtain ⟨b, o, x, rfl, hbl, hx, hc⟩ := HL1.out.at_ hlt
      have hx64 := HW.out x (List.mem_of_getElem? hx)
      have hc' : wr.cell? ⟨b, o + k, none⟩ = some (.int .u64 x) := (hb.cell (p := ⟨b, o + k, none⟩) hbl).trans hc
      have hd : wr.cell? ⟨w1.heap.size, k, none⟩ = some (U 0) := (hown.cellAt k (by omega)).trans (copied_get _ _ _ (by rw [flipW_len]; exact hlt))
      have hf := hown.frozenAt k
      have hz : w1.heap.size < wr.heap.size := (hown.lt w1.heap.size rfl).2
      have hkn : 64 * k < n := by have := Hl.out; omega
      have HO := Lib.hid hown
      have HB := Lib.hid hb
      have HX := Lib.hid (copied_succ (f := U) (U 0) (flipW n L) k _ (flipW_get n L k x hx))
      clear hx hc hown hb
      have hzS : w.heap.size < wr.heap.size := by omega
      have hy64 : 18446744073709551615 - x < 2 ^ 64 := by omega
      by_cases hfull : (64 : Int) ≤ (n : Int) - (k : Int) * 64
      · have HM : Hid (min 64 (n - 64 * k) = 64) := Lib.hid (by omega)
        go_wp2_with fail
        refine (wordFlip_any wr.heap.size x _ (by simp) (by simp) hx64).mono ?_
        rintro e w2 ⟨rfl, rfl⟩
        go_wp2_with fail
        refine (wordTrim_any wr.heap.size (18446744073709551615 - x) 64 _ (by simp) (by simp) hy64 (by omega)).mono ?_
        rintro e w3 ⟨rfl, rfl⟩
        go_wp2
        go_roundw
        case rel =>
          refine ⟨k + 1, by omega, by go_num, ?_, ?_⟩
          · rw [HX.out, HM.out]
            exact ((HO.out.stored k _).1).alloc _
          · exact ((HB.out.setCell (p := ⟨w1.heap.size, k, none⟩) (Nat.le_refl _) _).alloc (by go_size) _).drew
        case measure => simp [intOf]; omega
      · have HM : Hid (min 64 (n - 64 * k) = n - k * 64) := Lib.hid (by omega)
        have hsub : ((n : Int) - (k : Int) * 64) = ((n - k * 64 : Nat) : Int) := by omega
        have HSub := Lib.hid hsub
        clear hsub
        go_wp2_with fail
        refine (wordFlip_any wr.heap.size x _ (by simp) (by simp) hx64).mono ?_
        rintro e w2 ⟨rfl, rfl⟩
        go_wp2_with fail
        rw [HSub.out]
        refine (wordTrim_any wr.heap.size (18446744073709551615 - x) (n - k * 64) _ (by simp) (by simp) hy64 (by omega)).mono ?_
        rintro e w3 ⟨rfl, rfl⟩
        go_wp2
        go_roundw
        case rel =>
          refine ⟨k + 1, by omega, by go_num, ?_, ?_⟩
          · rw [HX.out, HM.out]
            exact ((HO.out.stored k _).1).alloc _
          · exact ((HB.out.setCell (p := ⟨w1.heap.size, k, none⟩) (Nat.le_refl _) _).alloc (by go_size) _).drew
        case measure => simp [intOf]; omega
    · have e : k = L.length := by omega
      subst e
      have ea := copied_all (f := U) (U 0) (flipW n L)
      rw [flipW_len] at ea
      rw [ea] at hown
      have hr2 := Hr1.out.below hb hR1
      have q0 := hr2.cell 0
      have q1 := hr2.cell 1
      have qf0 := hr2.frozen 0
      have qf1 := hr2.frozen 1
      simp only [List.getElem?_toArray, List.getElem?_cons_zero, List.getElem?_cons_succ] at q0 q1
      have HO := Lib.hid hown
      have HB := Lib.hid (below_then HB1.out hb)
      clear hown hb ea hr2
      go_wp2
      refine bodyPost_ret (v := .agg #[.int .i64 n, .slice (some ⟨w1.heap.size, 0, none⟩) L.length L.length]) (by simp [results, Tryd.results102, go_sem, q0, q1]) rfl ?_
      refine ⟨some ⟨w1.heap.size, 0, none⟩, L.length, by rw [flipW_len], ?_, ?_⟩
      · rw [flipW_len]
        exact own_mono (ownsRow_setCell_below (ownsRow_setCell_below HO.out (a := ⟨w.heap.size + 1, 0, none⟩) hR1 _) (a := ⟨w.heap.size + 1, 1, none⟩) hR1 _) HB1.out.size
      · exact (HB.out.setCell (p := ⟨w.heap.size + 1, 0, none⟩) (by simp) _).setCell (p := ⟨w.heap.size + 1, 1, none⟩) (by simp) _

end Go.Proofs.YtlbnngolcoefdaaDoor

/- The program's Rank, where it returns -1. -/
namespace Go.Proofs.YtlbnngolcoefdaaDoor
open Go.RowKit
set_option maxRecDepth 100000

set_option maxHeartbeats 400000 in
theorem implRank_bad (N : Int) (A : Option Addr) (c : Nat) (L : List Nat) (b i : Int) (w : World) (hL : Lies w U A L) (hw : ∀ x ∈ L, x < 2 ^ 64) (hok : okB N L = false) :
    Calls Tryd.prog 67 #[.agg #[.int .i64 N, .slice A L.length c], .int .i64 b, .int .i64 i] w fun e w' => e = .returned (.int .i64 (-1)) ∧ Below w.heap.size w w' := by
  have HW := Lib.hid hw
  have HL := Lib.hid hL
  clear hw hL
  go_enter Tryd.func67, Tryd.ntmps67
  have sc : Scene w w [] := Scene.start w
  go_wp2_with fail
  replace sc := sc.box 29 #[.int .i64 N, .slice A L.length c]
  generalize w.alloc (Obj.cells #[.int .i64 N, .slice A L.length c] 29) = W0 at *
  refine (implOk_any N A c L _ (sc.liesOld HL.out) HW.out).mono ?_
  rintro e w1 ⟨rfl, hb⟩
  replace sc := sc.step hb
  rw [hok]
  clear hb hok
  have HB := Lib.hid sc.below
  clear sc
  go_wp2
  go_ret
  exact ⟨rfl, HB.out⟩

set_option maxHeartbeats 400000 in
theorem implRank_out (N : Int) (A : Option Addr) (c : Nat) (L : List Nat) (b i : Int) (w : World) (hL : Lies w U A L) (hw : ∀ x ∈ L, x < 2 ^ 64) (hok : okB N L = true) (hno : ¬ (b = 0 ∨ b = 1) ∨ i < 0 ∨ N < i) :
    Calls Tryd.prog 67 #[.agg #[.int .i64 N, .slice A L.length c], .int .i64 b, .int .i64 i] w fun e w' => e = .returned (.int .i64 (-1)) ∧ Below w.heap.size w w' := by
  have HW := Lib.hid hw
  have HL := Lib.hid hL
  clear hw hL
  go_enter Tryd.func67, Tryd.ntmps67
  have sc : Scene w w [] := Scene.start w
  go_wp2_with fail
  replace sc := sc.box 29 #[.int .i64 N, .slice A L.length c]
  generalize w.alloc (Obj.cells #[.int .i64 N, .slice A L.length c] 29) = W0 at *
  refine (implOk_any N A c L _ (sc.liesOld HL.out) HW.out).mono ?_
  rintro e w1 ⟨rfl, hb⟩
  replace sc := sc.step hb
  rw [hok]
  clear hb hok
  have HNo := Lib.hid hno
  clear hno
  go_wp2_with fail
  refine (isBit_sel b _).mono ?_
  rintro e w2 ⟨rfl, rfl⟩
  have HB := Lib.hid sc.below
  obtain ⟨fa0, fa1, fal⟩ := sc.two 0 rfl
  clear sc
  by_cases hb01 : b = 0 ∨ b = 1
  · rw [decide_eq_true hb01]
    have hi := HNo.out.resolve_left (fun h => h hb01)
    by_cases hi0 : i < 0
    · have d0 : decide (i < 0) = true := decide_eq_true hi0
      clear hb01 hi
      go_wp2
      go_ret
      exact ⟨rfl, HB.out⟩
    · have d0 : decide (i < 0) = false := decide_eq_false hi0
      have hN : N < i := hi.resolve_left hi0
      have d1 : decide (N < i) = true := decide_eq_true hN
      clear hb01 hi
      go_wp2
      go_ret
      exact ⟨rfl, HB.out⟩
  · rw [decide_eq_false hb01]
    clear hb01
    go_wp2
    go_ret
    exact ⟨rfl, HB.out⟩

end Go.Proofs.YtlbnngolcoefdaaDoor

/- The library's count of the bits 1 of a word, and the program's method over it. -/
namespace Go.Proofs.YtlbnngolcoefdaaDoor
open Go.RowKit
set_option maxRecDepth 100000

theorem and_lit (a m : Nat) (ha : a < 2 ^ 64) (hm : m < 2 ^ 64) (c : Nat) (hc : a &&& m = c) : bits .and .u64 (a : Int) (m : Int) = (c : Int) := by rw [u64_and_nat a m ha hm, hc]
theorem and_127 (a : Nat) (ha : a < 4611686018427387904) : bits .and .i64 (a : Int) 127 = ((a % 128 : Nat) : Int) := by
  have e : (BitVec.ofInt 64 (a : Int)).toNat = a := by rw [BitVec.ofInt_natCast, BitVec.toNat_ofNat]; exact Nat.mod_eq_of_lt (by omega)
  have e2 : (BitVec.ofInt 64 127).toNat = 127 := by decide
  have e3 : a &&& 127 = a % 128 := Nat.and_two_pow_sub_one_eq_mod a 7
  show IntKind.i64.wrap ((BitVec.ofInt 64 (a : Int) &&& BitVec.ofInt 64 127).toNat : Int) = _
  rw [BitVec.toNat_and, e, e2, e3]
  exact IntWalk.i64_in _ (by omega)
theorem sum_lit (a b c : Nat) (hc : a + b = c) (hl : c < 2 ^ 64) : IntKind.u64.wrap ((a : Int) + (b : Int)) = (c : Int) := by
  rw [show (a : Int) + (b : Int) = (c : Int) by omega]
  exact IntWalk.u64_in _ (by omega)

set_option maxHeartbeats 400000 in
theorem onesCount_core (x a1 b1 y1 a2 b2 y2 t3 y3 y4 y5 y6 r : Nat) (w : World)
    (r1 : bits .and .u64 ((x : Int) / 2) 6148914691236517205 = (a1 : Int)) (r2 : bits .and .u64 (x : Int) 6148914691236517205 = (b1 : Int)) (s1 : IntKind.u64.wrap ((a1 : Int) + (b1 : Int)) = (y1 : Int))
    (r3 : bits .and .u64 ((y1 : Int) / 4) 3689348814741910323 = (a2 : Int)) (r4 : bits .and .u64 (y1 : Int) 3689348814741910323 = (b2 : Int)) (s2 : IntKind.u64.wrap ((a2 : Int) + (b2 : Int)) = (y2 : Int))
    (s3 : IntKind.u64.wrap ((y2 : Int) / 16 + (y2 : Int)) = (t3 : Int)) (r5 : bits .and .u64 (t3 : Int) 1085102592571150095 = (y3 : Int))
    (s4 : IntKind.u64.wrap ((y3 : Int) + (y3 : Int) / 256) = (y4 : Int)) (s5 : IntKind.u64.wrap ((y4 : Int) + (y4 : Int) / 65536) = (y5 : Int)) (s6 : IntKind.u64.wrap ((y5 : Int) + (y5 : Int) / 4294967296) = (y6 : Int))
    (hy : y6 < 4611686018427387904) (hr : y6 % 128 = r) :
    Calls Tryd.prog 138 #[U x] w fun e w' => e = .returned (.int .i64 r) ∧ w = w' := by
  have HR := Lib.hid hr
  clear hr
  go_enter Tryd.func138, Tryd.ntmps138
  go_wp2
  go_ret
  exact ⟨ret_int (by rw [and_127 y6 hy, HR.out]), rfl⟩

theorem onesCount_any (x : Nat) (w : World) (hx : x < 2 ^ 64) :
    Calls Tryd.prog 138 #[U x] w fun e w' => e = .returned (.int .i64 (popN 64 x)) ∧ w = w' := by
  have h1 := par1_le x
  have h2 := par2_le x
  have h3 := par3_le x
  have d1 : ((x : Int) / 2) = ((x / 2 : Nat) : Int) := by omega
  have d2 : ((par1 x : Int) / 4) = ((par1 x / 4 : Nat) : Int) := by omega
  have hor : par2 (par1 x) / 16 + par2 (par1 x) < 2 ^ 64 := by omega
  have e3 : (par2 (par1 x) / 16 + par2 (par1 x)) &&& 1085102592571150095 = par3 (par2 (par1 x)) := rfl
  have u8 : up8 (par3 (par2 (par1 x))) ≤ 2 * 578721382704613384 := by unfold up8; omega
  have u16 : up16 (up8 (par3 (par2 (par1 x)))) ≤ 3 * 578721382704613384 := by unfold up16; omega
  have u32 : up32 (up16 (up8 (par3 (par2 (par1 x))))) ≤ 4 * 578721382704613384 := by unfold up32; omega
  refine onesCount_core x (x / 2 &&& 6148914691236517205) (x &&& 6148914691236517205) (par1 x) (par1 x / 4 &&& 3689348814741910323) (par1 x &&& 3689348814741910323) (par2 (par1 x)) (par2 (par1 x) / 16 + par2 (par1 x)) (par3 (par2 (par1 x))) (up8 (par3 (par2 (par1 x)))) (up16 (up8 (par3 (par2 (par1 x))))) (up32 (up16 (up8 (par3 (par2 (par1 x)))))) (popN 64 x) w ?_ ?_ ?_ ?_ ?_ ?_ ?_ ?_ ?_ ?_ ?_ (by omega) (ones_count x)
  · rw [d1]; exact and_lit _ 6148914691236517205 (by omega) (by decide) _ rfl
  · exact and_lit _ 6148914691236517205 hx (by decide) _ rfl
  · exact sum_lit _ _ _ rfl (by omega)
  · rw [d2]; exact and_lit _ 3689348814741910323 (by omega) (by decide) _ rfl
  · exact and_lit _ 3689348814741910323 (by omega) (by decide) _ rfl
  · exact sum_lit _ _ _ rfl (by omega)
  · rw [show ((par2 (par1 x) : Int) / 16) = ((par2 (par1 x) / 16 : Nat) : Int) by omega]; exact sum_lit _ _ _ rfl (by omega)
  · exact and_lit _ 1085102592571150095 hor (by decide) _ e3
  · rw [show ((par3 (par2 (par1 x)) : Int) / 256) = ((par3 (par2 (par1 x)) / 256 : Nat) : Int) by omega]; exact sum_lit _ _ _ rfl (by omega)
  · rw [show ((up8 (par3 (par2 (par1 x))) : Int) / 65536) = ((up8 (par3 (par2 (par1 x))) / 65536 : Nat) : Int) by omega]; exact sum_lit _ _ _ rfl (by omega)
  · rw [show ((up16 (up8 (par3 (par2 (par1 x)))) : Int) / 4294967296) = ((up16 (up8 (par3 (par2 (par1 x)))) / 4294967296 : Nat) : Int) by omega]; exact sum_lit _ _ _ rfl (by omega)

set_option maxHeartbeats 400000 in
theorem wordOnes_any (g : Nat) (x : Nat) (w : World) (hc : w.cell? ⟨g, 0, none⟩ = some (U x)) (hx : x < 2 ^ 64) :
    Calls Tryd.prog 125 #[.pointer (some ⟨g, 0, none⟩)] w fun e w' => e = .returned (.int .i64 (popN 64 x)) ∧ w = w' := by
  have C := Lib.hid (fun W => onesCount_any x W hx)
  go_enter Tryd.func125, Tryd.ntmps125
  go_wp2_with fail
  refine (C.out _).mono ?_
  rintro e w1 ⟨rfl, rfl⟩
  go_wp2
  go_ret
  exact ⟨rfl, rfl⟩

end Go.Proofs.YtlbnngolcoefdaaDoor
