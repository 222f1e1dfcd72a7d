/- Pieces of other texts that the door seat's program has: isBit, the program's BitsFlip, the laws' copies and comparisons. -/
import Derived.Test.YtoehgcakfblblaaDoorFlip1
import Derived.Test.YtoehgcakfblblaaDoorFlipMath
import Derived.Test.YtoehgcakfblblaaDoorLaws5
import Derived.Test.YtoehgcakfblblaaDoorImpl2
namespace Go.Proofs.YtoehgcakfblblaaDoor
open Go.RowKit
set_option maxRecDepth 100000

set_option maxHeartbeats 400000 in
theorem isBit_sel (b : Int) (w : World) :
    Calls Tryd.prog 40 #[.int .i64 b] w fun e w' => e = .returned (.bool (decide (b = 0 ∨ b = 1))) ∧ w = w' := by
  by_cases h0 : b = 0
  · subst h0
    go_enter Tryd.func40, Tryd.ntmps40
    go_wp2
    go_ret
    exact ⟨rfl, rfl⟩
  · have t0 : (b == 0) = false := by rw [beq_eq_false_iff_ne]; exact h0
    by_cases h1 : b = 1
    · subst h1
      go_enter Tryd.func40, Tryd.ntmps40
      go_wp2
      go_ret
      exact ⟨rfl, rfl⟩
    · have t1 : (b == 1) = false := by rw [beq_eq_false_iff_ne]; exact h1
      have HF := Lib.hid (decide_eq_false (show ¬ (b = 0 ∨ b = 1) by omega))
      clear h0 h1
      go_enter Tryd.func40, Tryd.ntmps40
      go_wp2
      go_ret
      exact ⟨ret_bool HF.out.symm, rfl⟩

set_option maxHeartbeats 400000 in
theorem implFlip_ok (n : Nat) (A : Option Addr) (c : Nat) (L : List Nat) (w : World) (hL : Lies w U A L) (hw : ∀ x ∈ L, x < 2 ^ 64) (hok : okB n L = true) (hn : n ≤ 5000) (Hl : Hid (L.length = (n + 63) / 64)) :
    Calls Tryd.prog 53 #[.agg #[.int .i64 n, .slice A L.length c]] w (NewBits1 w n (flipW n L)) := by
  have HW := Lib.hid hw
  clear hw
  have hl79 : L.length ≤ 79 := by rw [Hl.out]; omega
  have hmk := fun W => run_make_row' (P := Tryd.prog) 44 64 (.int .u64 0) 8 Tryd.underlying44 Tryd.infoU64 rfl .i64 .i64 L.length (by omega) (by omega) W
  go_enter Tryd.func53, Tryd.ntmps53
  go_wp2_with fail
  generalize hW0 : (w.alloc (Obj.cells #[Value.int IntKind.i64 n, Value.slice A L.length c] 46)).alloc (Obj.cells #[Value.int IntKind.i64 0, Value.slice none 0 0] 46) = W0
  have hr0 : Box W0 (w.heap.size + 1) 46 #[.int .i64 0, .slice none 0 0] := by
    have h := Box.made (w.alloc (Obj.cells #[Value.int IntKind.i64 n, Value.slice A L.length c] 46)) 46 #[Value.int IntKind.i64 0, Value.slice none 0 0]
    rw [World.size_alloc] at h
    rw [← hW0]; exact h
  have hx0 : Box W0 w.heap.size 46 #[.int .i64 n, .slice A L.length c] := by
    rw [← hW0]; exact (Box.made _ _ _).alloc _
  have hb0 : Below w.heap.size w W0 := by rw [← hW0]; go_grown
  clear hW0
  refine (implOk_any n A c L _ (hL.below hb0) HW.out).mono ?_
  rintro e w1 ⟨rfl, hb⟩
  rw [hok]
  have hr1 := hr0.below hb hr0.lt
  have hx1 := hx0.below hb hx0.lt
  have hb1 := below_then hb0 hb
  have f0 := hx1.cell 0
  have f1 := hx1.cell 1
  simp only [List.getElem?_toArray, List.getElem?_cons_zero, List.getElem?_cons_succ] at f0 f1
  have hS1 := hx1.lt
  have hR1 := hr1.lt
  have HL1 := Lib.hid (hL.below hb1)
  have HB1 := Lib.hid hb1
  have Hr1 := Lib.hid hr1
  clear hb hL hok hr0 hx0 hb0 hx1 hr1 hb1
  go_wp2
  go_loopw [18] (fun i wr => ∃ k : Nat, k ≤ L.length ∧ i = .int .i64 k ∧ wr.ownsRow w1.heap.size 64 1 (.slice (some ⟨w1.heap.size, 0, none⟩) L.length L.length) L.length (copied U (U 0) (flipW n L) k) ∧ Below w1.heap.size w1 wr) (fun i _ => L.length - (intOf i).toNat)
  case atStart =>
    refine ⟨0, Nat.zero_le _, rfl, ?_, (Below.refl _ _).alloc (Nat.le_refl _) _⟩
    rw [copied_zero, flipW_len, ← toList_madeCells_one]
    exact World.ownsRow_lit w1 _ _ (Nat.le_refl _) (by unfold maxLen; omega) (by simp [size_madeCells])
  case round =>
    obtain ⟨k, hk, rfl, hown, hb⟩ := hrel
    clear hmk
    have g0 := (hb.cell (p := ⟨w.heap.size, 0, none⟩) hS1).trans f0
    by_cases hlt : k < L.length
    · obtain ⟨b, o, x, rfl, hbl, hx, hc⟩ := HL1.out.at_ hlt
      have hx64 := HW.out x (List.mem_of_getElem? hx)
      have hc' : wr.cell? ⟨b, o + k, none⟩ = some (.int .u64 x) := (hb.cell (p := ⟨b, o + k, none⟩) hbl).trans hc
      have hd : wr.cell? ⟨w1.heap.size, k, none⟩ = some (U 0) := (hown.cellAt k (by omega)).trans (copied_get _ _ _ (by rw [flipW_len]; exact hlt))
      have hf := hown.frozenAt k
      have hz : w1.heap.size < wr.heap.size := (hown.lt w1.heap.size rfl).2
      have hkn : 64 * k < n := by have := Hl.out; omega
      have HO := Lib.hid hown
      have HB := Lib.hid hb
      have HX := Lib.hid (copied_succ (f := U) (U 0) (flipW n L) k _ (flipW_get n L k x hx))
      clear hx hc hown hb
      have hzS : w.heap.size < wr.heap.size := by omega
      have hy64 : 18446744073709551615 - x < 2 ^ 64 := by omega
      by_cases hfull : (64 : Int) ≤ (n : Int) - (k : Int) * 64
      · have HM : Hid (min 64 (n - 64 * k) = 64) := Lib.hid (by omega)
        go_wp2_with fail
        refine (wordFlip_any wr.heap.size x _ (by simp) (by simp) hx64).mono ?_
        rintro e w2 ⟨rfl, rfl⟩
        go_wp2_with fail
        refine (wordTrim_any wr.heap.size (18446744073709551615 - x) 64 _ (by simp) (by simp) hy64 (by omega)).mono ?_
        rintro e w3 ⟨rfl, rfl⟩
        go_wp2
        go_roundw
        case rel =>
          refine ⟨k + 1, by omega, by go_num, ?_, ?_⟩
          · rw [HX.out, HM.out]
            exact ((HO.out.stored k _).1).alloc _
          · exact ((HB.out.setCell (p := ⟨w1.heap.size, k, none⟩) (Nat.le_refl _) _).alloc (by go_size) _).drew
        case measure => simp [intOf]; omega
      · have HM : Hid (min 64 (n - 64 * k) = n - k * 64) := Lib.hid (by omega)
        have hsub : ((n : Int) - (k : Int) * 64) = ((n - k * 64 : Nat) : Int) := by omega
        have HSub := Lib.hid hsub
        clear hsub
        go_wp2_with fail
        refine (wordFlip_any wr.heap.size x _ (by simp) (by simp) hx64).mono ?_
        rintro e w2 ⟨rfl, rfl⟩
        go_wp2_with fail
        rw [HSub.out]
        refine (wordTrim_any wr.heap.size (18446744073709551615 - x) (n - k * 64) _ (by simp) (by simp) hy64 (by omega)).mono ?_
        rintro e w3 ⟨rfl, rfl⟩
        go_wp2
        go_roundw
        case rel =>
          refine ⟨k + 1, by omega, by go_num, ?_, ?_⟩
          · rw [HX.out, HM.out]
            exact ((HO.out.stored k _).1).alloc _
          · exact ((HB.out.setCell (p := ⟨w1.heap.size, k, none⟩) (Nat.le_refl _) _).alloc (by go_size) _).drew
        case measure => simp [intOf]; omega
    · have e : k = L.length := by omega
      subst e
      have ea := copied_all (f := U) (U 0) (flipW n L)
      rw [flipW_len] at ea
      rw [ea] at hown
      have hr2 := Hr1.out.below hb hR1
      have q0 := hr2.cell 0
      have q1 := hr2.cell 1
      have qf0 := hr2.frozen 0
      have qf1 := hr2.frozen 1
      simp only [List.getElem?_toArray, List.getElem?_cons_zero, List.getElem?_cons_succ] at q0 q1
      have HO := Lib.hid hown
      have HB := Lib.hid (below_then HB1.out hb)
      clear hown hb ea hr2
      go_wp2
      refine bodyPost_ret (v := .agg #[.int .i64 n, .slice (some ⟨w1.heap.size, 0, none⟩) L.length L.length]) (by simp [results, Tryd.results53, go_sem, q0, q1]) rfl ?_
      refine ⟨some ⟨w1.heap.size, 0, none⟩, L.length, by rw [flipW_len], ?_, ?_⟩
      · rw [flipW_len]
        exact own_mono (ownsRow_setCell_below (ownsRow_setCell_below HO.out (a := ⟨w.heap.size + 1, 0, none⟩) hR1 _) (a := ⟨w.heap.size + 1, 1, none⟩) hR1 _) HB1.out.size
      · exact (HB.out.setCell (p := ⟨w.heap.size + 1, 0, none⟩) (by simp) _).setCell (p := ⟨w.heap.size + 1, 1, none⟩) (by simp) _

end Go.Proofs.YtoehgcakfblblaaDoor
