/- The program's counts of the words before (for the seat whose load has no zero cells of its own). -/
import Derived.Test.YtoehgcakfblblaaDoorWvMath2
import Derived.Test.YtoehgcakfblblaaDoorSfD1
import Derived.Test.YtoehgcakfblblaaDoorPop1
import Derived.Test.YtoehgcakfblblaaDoorFlip1
import Derived.StillTailTactics
namespace Go.Proofs.YtoehgcakfblblaaDoor
open Go.RowKit
set_option maxRecDepth 100000

/-- The array of the counts after m words. -/
def cells (M : List Nat) (m : Nat) : Array Value := ((List.range 80).map fun j => Value.int .i64 (if j ≤ m then (popL M j : Int) else 0)).toArray
/-- The array's zero value, its cells by a name. -/
def zc : Array Value := Array.replicate 80 (.int .i64 0)
theorem zc_zero (W : World) : (zeroValue 79).run Tryd.prog W = .ok (.agg zc) W := by
  first | rfl | kernel_rfl
theorem zc_size : zc.size = 80 := by simp [zc]
theorem zc_ne : ¬ zc = #[] := fun e => by have := zc_size; rw [e] at this; simp at this
theorem cells_zero (M : List Nat) : cells M 0 = zc := by rfl
theorem cells_get (M : List Nat) (m j : Nat) (hj : j ≤ m) (hm : m < 80) : (cells M m)[j]? = some (.int .i64 (popL M j)) := by
  unfold cells
  rw [List.getElem?_toArray, List.getElem?_map, List.getElem?_range (by omega)]
  simp [hj]
theorem cells_some (M : List Nat) (m j : Nat) (hj : j < 80) : ∃ u : Int, (cells M m)[j]? = some (.int .i64 u) := by
  unfold cells
  rw [List.getElem?_toArray, List.getElem?_map, List.getElem?_range hj]
  exact ⟨_, rfl⟩
theorem cells_put (M : List Nat) (m : Nat) : (cells M m).setIfInBounds (m + 1) (.int .i64 (popL M (m + 1))) = cells M (m + 1) := by
  unfold cells
  rw [List.setIfInBounds_toArray]
  congr 1
  apply List.ext_getElem?
  intro j
  rw [List.getElem?_set, List.length_map, List.length_range]
  by_cases hj : j < 80
  · rw [List.getElem?_map, List.getElem?_map, List.getElem?_range hj, Option.map_some, Option.map_some]
    by_cases e : m + 1 = j
    · subst e
      rw [if_pos rfl, if_pos hj, if_pos (Nat.le_refl _)]
    · rw [if_neg e]
      by_cases hle : j ≤ m
      · rw [if_pos hle, if_pos (by omega)]
      · rw [if_neg hle, if_neg (by omega)]
  · rw [List.getElem?_map, List.getElem?_map, List.getElem?_eq_none (show (List.range 80).length ≤ j by simp; omega)]
    by_cases e : m + 1 = j
    · rw [if_pos e, if_neg (by omega)]; rfl
    · rw [if_neg e]; rfl

set_option maxHeartbeats 400000 in
theorem fill_any (A : Option Addr) (c : Nat) (M : List Nat) (w0 w : World) (hM : Lies w0 U A M) (hw : ∀ x ∈ M, x < 2 ^ 64) (hl : M.length ≤ 79) (hx : Box w w0.heap.size 79 (cells M 0)) (hb : Below w0.heap.size w0 w) :
    Calls Tryd.prog 47 #[.pointer (some ⟨w0.heap.size, 0, none⟩), .slice A M.length c] w fun e w' => e = .returned (.tuple #[]) ∧ Box w' w0.heap.size 79 (cells M M.length) ∧ Below w0.heap.size w0 w' := by
  have HM := Lib.hid hM
  have HW := Lib.hid hw
  have HX := Lib.hid hx
  have HB := Lib.hid hb
  clear hM hw hx hb
  go_enter Tryd.func47, Tryd.ntmps47
  go_wp2
  go_loopw [9] (fun i wr => ∃ m : Nat, m ≤ M.length ∧ i = .int .i64 m ∧ Box wr w0.heap.size 79 (cells M m) ∧ Below w0.heap.size w0 wr) (fun i _ => M.length - (intOf i).toNat)
  case atStart => exact ⟨0, Nat.zero_le _, rfl, HX.out, HB.out⟩
  case round =>
    obtain ⟨m, hm, rfl, hx, hb⟩ := hrel
    clear HX HB
    by_cases hlt : m < M.length
    · obtain ⟨b, o, x, rfl, hbl, hxx, hc⟩ := (HM.out.below hb).at_ hlt
      have hx64 := HW.out x (List.mem_of_getElem? hxx)
      have hpl := popL_le M m
      have hpn := popN_le 64 x
      have HS : Hid (popL M (m + 1) = popL M m + popN 64 x) := Lib.hid (by rw [popL, hxx]; rfl)
      obtain ⟨u, hu⟩ := cells_some M m (m + 1) (by omega)
      have hd1 : wr.cell? ⟨w0.heap.size, m, none⟩ = some (.int .i64 (popL M m)) := (hx.cell m).trans (cells_get M m m (Nat.le_refl _) (by omega))
      have hd2 : wr.cell? ⟨w0.heap.size, m + 1, none⟩ = some (.int .i64 u) := (hx.cell (m + 1)).trans hu
      have hlt0 := hx.lt
      have hf2 := hx.frozen (m + 1)
      have HX := Lib.hid hx
      have HB := Lib.hid hb
      have hcs : (wr.alloc (Obj.cells #[Value.int IntKind.u64 (x : Int)] 76)).cell? ⟨wr.heap.size, 0, none⟩ = some (U x) := (Box.made wr 76 #[Value.int IntKind.u64 (x : Int)]).cell 0
      have hbA : Below wr.heap.size wr (wr.alloc (Obj.cells #[Value.int IntKind.u64 (x : Int)] 76)) := (Below.refl _ _).alloc (Nat.le_refl _) _
      have hxA := hx.alloc (Obj.cells #[Value.int IntKind.u64 (x : Int)] 76)
      have hdA : (wr.alloc (Obj.cells #[Value.int IntKind.u64 (x : Int)] 76)).cell? ⟨w0.heap.size, m, none⟩ = some (.int .i64 (popL M m)) := (hxA.cell m).trans (cells_get M m m (Nat.le_refl _) (by omega))
      have hdB : (wr.alloc (Obj.cells #[Value.int IntKind.u64 (x : Int)] 76)).cell? ⟨w0.heap.size, m + 1, none⟩ = some (.int .i64 u) := (hxA.cell (m + 1)).trans hu
      have hfB := hxA.frozen (m + 1)
      have hltA := hxA.lt
      have HXA := Lib.hid hxA
      have HBA := Lib.hid (hb.trans (hbA.mono hb.size))
      clear hxx hu hx hb hbA hxA hd1 hd2 hf2 HX HB
      go_wp2_with fail
      generalize wr.alloc (Obj.cells #[Value.int IntKind.u64 (x : Int)] 76) = W at *
      have HC := Lib.hid ((wordOnes_any wr.heap.size x W.drew hcs hx64).mono fun e w' h => (⟨h.1, h.2.symm⟩ : e = .returned (.int .i64 (popN 64 x)) ∧ w' = W.drew))
      generalize popN 64 x = t at *
      generalize popL M m = p at *
      obtain ⟨j1, hj1⟩ : ∃ j1, m + 1 = j1 := ⟨_, rfl⟩
      rw [hj1] at hdB hfB
      have e4 : IntKind.i64.wrap ((m : Int) + 1) = (j1 : Int) := by rw [IntWalk.i64_in _ (by omega)]; omega
      have e5 : IntKind.i64.wrap ((p : Int) + (t : Int)) = (p : Int) + (t : Int) := IntWalk.i64_in _ (by omega)
      have hj80 : (j1 : Int) < 80 := by omega
      have hm80 : (m : Int) < 80 := by omega
      have HJ := Lib.hid hj1
      clear hj1
      go_still_tail 12, (by kernel_rfl)
      still_call HC.out
      repeat still_step
      refine wpStill_nil ?_
      change wpList _ _ _ _ _ W.drew
      go_wp2
      go_roundw
      case rel =>
        refine ⟨j1, by have := HJ.out; omega, rfl, ?_, ?_⟩
        · have h := (HXA.out.put (m + 1) (.int .i64 ((popL M (m + 1) : Nat) : Int)))
          rw [cells_put, HS.out, Int.natCast_add, HJ.out] at h
          exact h
        · exact (HBA.out.setCell (p := ⟨w0.heap.size, j1, none⟩) (Nat.le_refl _) _).drew
      case measure =>
        have := HJ.out
        simp [intOf]
        omega
    · have e : m = M.length := by omega
      subst e
      have HX := Lib.hid hx
      have HB := Lib.hid hb
      clear hx hb
      go_wp2
      go_end0
      exact ⟨rfl, HX.out, HB.out⟩

theorem popN_zero : ∀ k, popN k 0 = 0
  | 0 => rfl
  | k + 1 => by rw [popN, popN_zero k]
theorem popN_trim (x s : Nat) (hs : s ≤ 64) : popN 64 (x % 2 ^ s) = popN s x := by
  rw [show 64 = s + (64 - s) by omega, popN_add, popN_mod, Nat.div_eq_of_lt (Nat.mod_lt _ (Nat.two_pow_pos _)), popN_zero, Nat.add_zero]
theorem popL_take (L : List Nat) (q : Nat) : ∀ k, k ≤ q → popL (L.take q) k = popL L k
  | 0, _ => rfl
  | k + 1, h => by
    rw [popL, popL, popL_take L q k (by omega), List.getElem?_take, if_pos (by omega)]

set_option maxHeartbeats 400000 in
theorem onesBefore_any (A : Option Addr) (c : Nat) (L : List Nat) (i : Nat) (w : World) (hL : Lies w U A L) (hw : ∀ x ∈ L, x < 2 ^ 64) (hi : i ≤ 5000) (hil : i ≤ 64 * L.length) (hl79 : L.length ≤ 79) (hlc : L.length ≤ c) (hcm : c ≤ 9223372036854775807) :
    Calls Tryd.prog 41 #[.slice A L.length c, .int .i64 i] w fun e w' => e = .returned (.int .i64 (cnt L 1 i)) ∧ Below w.heap.size w w' := by
  obtain ⟨q, hq⟩ : ∃ q, i / 64 = q := ⟨_, rfl⟩
  obtain ⟨s, hs⟩ : ∃ s, i % 64 = s := ⟨_, rfl⟩
  have hql : q ≤ L.length := by omega
  have e1 : IntKind.i64.wrap ((i : Int) / 64) = (q : Int) := by rw [show (i : Int) / 64 = q by omega]; exact IntWalk.i64_in _ (by omega)
  have e2 : (i : Int).tmod 64 = (s : Int) := by rw [IntWalk.rem_in _ _ (by omega)]; omega
  have e3 : (i : Int) / 64 = (q : Int) := by omega
  have e4 : (i : Int) % 64 = (s : Int) := by omega
  have hs64 : s < 64 := by omega
  have hcnt : cnt L 1 i = popL L q + popN s (L[q]?.getD 0) := by
    rw [show i = 64 * q + s by omega, cnt_word L q s (by omega), cnt_pop]
  have hsl : s ≠ 0 → q < L.length := by omega
  have HCnt := Lib.hid hcnt
  have HL := Lib.hid hL
  have HW := Lib.hid hw
  have hql2 : (L.take q).length = q := by rw [List.length_take]; omega
  have HF := Lib.hid fun (w' : World) (h1 : Box w' w.heap.size 79 (cells (L.take q) 0)) h2 => fill_any A c (L.take q) w w' (hL.front q) (fun x hx => hw x (List.mem_of_mem_take hx)) (by omega) h1 h2
  rw [hql2] at HF
  have hpl := popL_le L q
  have hpt := popL_take L q q (Nat.le_refl _)
  clear hq hs hL hw hcnt hql2
  have hz := zc_zero
  have hzn := zc_ne
  have hzs := zc_size
  go_enter Tryd.func41, Tryd.ntmps41
  go_wp2_with fail
  refine (HF.out _ ?_ ?_).mono ?_
  · rw [cells_zero]; exact Box.made _ _ _
  · exact (Below.refl _ _).alloc (Nat.le_refl _) _
  rintro e w1 ⟨rfl, hx, hb⟩
  have hd : w1.cell? ⟨w.heap.size, q, none⟩ = some (.int .i64 (popL L q)) := by
    rw [← hpt]; exact (hx.cell q).trans (cells_get (L.take q) q q (Nat.le_refl _) (by omega))
  have hq80 : (q : Int) < 80 := by omega
  have HB := Lib.hid hb
  have hlt := hx.lt
  clear HF
  by_cases h0 : s = 0
  · subst h0
    have HE : Hid (cnt L 1 i = popL L q) := Lib.hid (by rw [HCnt.out, popN, Nat.add_zero])
    clear hsl hx hb hpt
    go_wp2
    go_ret
    exact ⟨ret_int (by rw [HE.out]), HB.out⟩
  · have t0 : ((s : Int) == 0) = false := by rw [beq_eq_false_iff_ne]; omega
    have hqL := hsl h0
    obtain ⟨bl, o, x, rfl, hbl, hxx, hc⟩ := (HL.out.below hb).at_ hqL
    have hx64 := HW.out x (List.mem_of_getElem? hxx)
    have HE : Hid (cnt L 1 i = popL L q + popN s x) := Lib.hid (by rw [HCnt.out, hxx]; rfl)
    clear hsl hxx hb h0
    go_wp2_with fail
    have hm1 := Box.made w1 76 #[Value.int IntKind.u64 (x : Int)]
    have hxA := hx.alloc (Obj.cells #[Value.int IntKind.u64 (x : Int)] 76)
    have hbA := HB.out.alloc HB.out.size (Obj.cells #[Value.int IntKind.u64 (x : Int)] 76)
    refine (wordTrim_any w1.heap.size x s _ (hm1.cell 0) (hm1.frozen 0) hx64 (by omega)).mono ?_
    rintro e w2 ⟨rfl, rfl⟩
    have hm2 := hm1.put 0 (U (x % 2 ^ s))
    have hx2 := hxA.off (p := ⟨w1.heap.size, 0, none⟩) (by simp; omega) (U (x % 2 ^ s))
    have hb2 := hbA.setCell (p := ⟨w1.heap.size, 0, none⟩) HB.out.size (U (x % 2 ^ s))
    have hd2 : (((w1.alloc (Obj.cells #[Value.int IntKind.u64 (x : Int)] 76)).setCell ⟨w1.heap.size, 0, none⟩ (U (x % 2 ^ s))).drew).cell? ⟨w.heap.size, q, none⟩ = some (.int .i64 (popL L q)) := by
      rw [← hpt]; exact (hx2.cell q).trans (cells_get (L.take q) q q (Nat.le_refl _) (by omega))
    have hc2 : (((w1.alloc (Obj.cells #[Value.int IntKind.u64 (x : Int)] 76)).setCell ⟨w1.heap.size, 0, none⟩ (U (x % 2 ^ s))).drew).cell? ⟨w1.heap.size, 0, none⟩ = some (U (x % 2 ^ s)) := hm2.cell 0
    have hlt2 := hx2.lt
    have HB2 := Lib.hid hb2.drew
    have hy64 : x % 2 ^ s < 2 ^ 64 := Nat.lt_of_le_of_lt (Nat.mod_le _ _) hx64
    have HP := Lib.hid (popN_trim x s (by omega))
    have hpn := popN_le 64 (x % 2 ^ s)
    clear hm1 hxA hbA hm2 hx2 hb2 hx hd hpt
    generalize ((w1.alloc (Obj.cells #[Value.int IntKind.u64 (x : Int)] 76)).setCell ⟨w1.heap.size, 0, none⟩ (U (x % 2 ^ s))).drew = V at *
    have HC := Lib.hid fun (V' : World) (h : V'.heap = V.heap) => (wordOnes_any w1.heap.size (x % 2 ^ s) V' (by unfold World.cell? at hc2 ⊢; rw [h]; exact hc2) hy64).mono fun e w' h => (⟨h.1, h.2.symm⟩ : e = .returned (.int .i64 (popN 64 (x % 2 ^ s))) ∧ w' = V')
    generalize popN 64 (x % 2 ^ s) = t at *
    generalize popL L q = p at *
    go_wp2_with fail
    go_quiet ((go_at_call 49; exact Calls.quiet_of_same (HC.out (V.drewN _) rfl)))
    go_wp2
    go_ret
    exact ⟨ret_int (by rw [HE.out, ← HP.out]; simp), below_dN HB2.out _⟩

end Go.Proofs.YtoehgcakfblblaaDoor
