/- HuffOk, of the program and of the specification. -/
import Derived.Test.YtoehgcakfblblaaBitMath
import Derived.Test.YtoehgcakfblblaaPowW
import Derived.Test.YtoehgcakfblblaaNewI
import Derived.Deep.RegionWith
import Derived.Deep.RegionHeld3
namespace Go.Proofs.Ytoehgcakfblblaa
open Go.RowKit
set_option maxRecDepth 100000

theorem hw_le2 (l : Int) : hw l ≤ 576460752303423488 := hw_le l
theorem hcnt_take {L : List Int} {k : Nat} {x : Int} (h : L[k]? = some x) : hcnt (L.take (k + 1)) = hcnt (L.take k) + (if 0 < x then 1 else 0) := by
  obtain ⟨h1, h2⟩ := List.getElem?_eq_some_iff.mp h
  rw [List.take_succ_eq_append_getElem h1, h2, hcnt_app]
  simp [hcnt]
theorem hone_take {L : List Int} {k : Nat} {x : Int} (h : L[k]? = some x) : hone (L.take (k + 1)) = hone (L.take k) + (if x = 1 then 1 else 0) := by
  obtain ⟨h1, h2⟩ := List.getElem?_eq_some_iff.mp h
  rw [List.take_succ_eq_append_getElem h1, h2, hone_app]
  simp [hone]
theorem hsum_take {L : List Int} {k : Nat} {x : Int} (h : L[k]? = some x) : hsum (L.take (k + 1)) = hsum (L.take k) + hw x := by
  obtain ⟨h1, h2⟩ := List.getElem?_eq_some_iff.mp h
  rw [List.take_succ_eq_append_getElem h1, h2, hsum_app]
  simp [hsum]
theorem hlast_take {L : List Int} {k : Nat} {x : Int} (h : L[k]? = some x) : hlast (L.take (k + 1)) 0 = if 0 < x then x else hlast (L.take k) 0 := by
  obtain ⟨h1, h2⟩ := List.getElem?_eq_some_iff.mp h
  rw [List.take_succ_eq_append_getElem h1, h2, hlast_app]
  simp [hlast]

/-- The first k lengths are in 0..60, and their weights are no more than 2^60. -/
def hgood (L : List Int) (k : Nat) : Prop := (∀ j < k, ∀ x, L[j]? = some x → 0 ≤ x ∧ x ≤ 60) ∧ hsum (L.take k) ≤ 1152921504606846976
theorem hgood_zero (L : List Int) : hgood L 0 := ⟨fun j hj => by omega, by simp [hsum]⟩
theorem hgood_succ {L : List Int} {k : Nat} {x : Int} (h : hgood L k) (hx : L[k]? = some x) (h0 : 0 ≤ x) (h1 : x ≤ 60) (hs : hsum (L.take k) + hw x ≤ 1152921504606846976) : hgood L (k + 1) := by
  refine ⟨fun j hj y hy => ?_, by rw [hsum_take hx]; exact hs⟩
  by_cases e : j = k
  · subst e
    rw [hx] at hy
    cases hy
    exact ⟨h0, h1⟩
  · exact h.1 j (by omega) y hy
theorem hgood_all {L : List Int} (h : hgood L L.length) : ∀ l ∈ L, 0 ≤ l ∧ l ≤ 60 := by
  intro l hl
  obtain ⟨j, hj⟩ := List.mem_iff_getElem?.1 hl
  exact h.1 j (List.getElem?_eq_some_iff.mp hj).1 l hj
theorem hover {L : List Int} {k : Nat} {x : Int} (hx : L[k]? = some x) (hs : ¬ hsum (L.take k) + hw x ≤ 1152921504606846976) : okH L = false := okH_over (k := k + 1) (by rw [hsum_take hx]; omega)

theorem wrap64_in (x : Int) (h : -9223372036854775808 ≤ x ∧ x ≤ 9223372036854775807) : wrap64 x = x := by unfold wrap64; omega
theorem wrap64_sub (s q : Nat) (hs : s ≤ 1152921504606846976) (hq : q ≤ 576460752303423488) : wrap64 ((1152921504606846976 : Int) - (s : Int) - (q : Int)) = (1152921504606846976 : Int) - (s : Int) - (q : Int) := wrap64_in _ (by omega)
theorem run_shl1_h {P : Program} (t : TypeId) (r : Nat) (hr : r ≤ 62) (W : World) : (binOp .shl t (.int .i64 1) (.int .i64 (r : Int))).run P W = .ok (.int .i64 ((2 ^ r : Nat) : Int)) W := by
  have h : min r 64 = r := by omega
  have h2 : (2 : Nat) ^ r ≤ 2 ^ 62 := Nat.pow_le_pow_right (by omega) hr
  have h3 : ((2 ^ r : Nat) : Int) = (2 : Int) ^ r := by simp
  simp [binOp, Op.shift, IntKind.bits, h]
  rw [← h3]
  generalize 2 ^ r = p at *
  exact IntWalk.i64_in _ (by omega)

/-- What add does: x is the length, s, u and o the sums before; a refused length is no length, or makes the sum too great. -/
def AddPost (b : Nat) (x : Int) (s u o : Nat) (w0 : World) (e : Ending) (w' : World) : Prop := ∃ r : Bool, e = .returned (.bool r) ∧ Below w0.heap.size w0 w' ∧
      ((r = true ∧ 0 ≤ x ∧ x ≤ 60 ∧ s + hw x ≤ 1152921504606846976 ∧ Box w' b 110 #[.int .i64 ((1152921504606846976 : Int) - ((s + hw x : Nat) : Int)), .int .i64 ((u + (if 0 < x then 1 else 0) : Nat) : Int), .int .i64 ((o + (if x = 1 then 1 else 0) : Nat) : Int)]) ∨
       (r = false ∧ ¬ (0 ≤ x ∧ x ≤ 60 ∧ s + hw x ≤ 1152921504606846976)))

set_option maxHeartbeats 1600000 in
theorem huffAdd_any (b : Nat) (x : Int) (s u o : Nat) (w0 w : World) (hb : Box w b 110 #[.int .i64 ((1152921504606846976 : Int) - s), .int .i64 u, .int .i64 o]) (hl : b = w0.heap.size) (hB : Below w0.heap.size w0 w) (hs : s ≤ 1152921504606846976) (hu : u ≤ 1000) (ho : o ≤ 1000) :
    Calls Try.prog 89 #[.pointer (some ⟨b, 0, none⟩), .int .i64 x] w (AddPost b x s u o w0) := by
  subst hl
  have HB := Lib.hid hb
  have HBe := Lib.hid hB
  clear hb hB
  have b0 := HB.out.cell 0
  have b1 := HB.out.cell 1
  have b2 := HB.out.cell 2
  have f0 := HB.out.frozen 0
  have f1 := HB.out.frozen 1
  have f2 := HB.out.frozen 2
  have bl := HB.out.lt
  simp only [List.getElem?_toArray, List.getElem?_cons_zero, List.getElem?_cons_succ] at b0 b1 b2
  by_cases hz : x = 0
  · subst hz
    clear b0 b1 b2 f0 f1 f2
    go_enter Try.func89, Try.ntmps89
    go_wp2
    go_ret
    refine ⟨true, rfl, HBe.out, .inl ⟨rfl, by omega, by omega, by rw [hw_zero (by omega)]; omega, ?_⟩⟩
    rw [hw_zero (by omega), if_neg (by omega), if_neg (by omega)]
    exact HB.out
  · have d0 : decide (x = 0) = false := decide_eq_false hz
    by_cases hr : 0 < x ∧ x ≤ 60
    · obtain ⟨k, rfl⟩ : ∃ k : Nat, x = (k : Int) := ⟨x.toNat, by omega⟩
      have hwk : hw (k : Int) = 2 ^ (60 - k) := by rw [hw_pos hr.1]; congr 1; omega
      obtain ⟨q, hq⟩ : ∃ q, hw (k : Int) = q := ⟨_, rfl⟩
      have hq2 : q ≤ 576460752303423488 := by rw [← hq]; exact hw_le2 _
      have e60 : IntKind.i64.wrap ((60 : Int) - (k : Int)) = ((60 - k : Nat) : Int) := by rw [IntWalk.i64_in _ (by omega)]; omega
      have e60b : (60 : Int) - (k : Int) = ((60 - k : Nat) : Int) := by omega
      have hsh := fun W => run_shl1_h (P := Try.prog) 3 (60 - k) (by omega) W
      rw [← hwk, hq] at hsh
      obtain ⟨r, hr60⟩ : ∃ r, 60 - k = r := ⟨_, rfl⟩
      rw [hr60] at e60 e60b hsh
      have hsh2 : ∀ W, Sem.run Try.prog (Op.shift BinOp.shl IntKind.i64 1 IntKind.i64 (r : Int)) W = Result.ok (Value.int IntKind.i64 (q : Int)) W := hsh
      have er : IntKind.i64.wrap (r : Int) = (r : Int) := IntWalk.i64_in _ (by omega)
      clear hsh
      have ep : wrap64 ((2 : Int) ^ r) = (q : Int) := by
        have h1 : ((2 : Int) ^ r) = (q : Int) := by rw [← hq, hwk, ← hr60]; simp
        rw [h1]; exact wrap64_in _ (by clear hwk h1 hsh2; omega)
      clear hwk
      have ew : wrap64 ((1152921504606846976 : Int) - (s : Int) - (q : Int)) = (1152921504606846976 : Int) - (s : Int) - (q : Int) := wrap64_sub s q hs hq2
      have ev : (1152921504606846976 : Int) - ((s + q : Nat) : Int) = (1152921504606846976 : Int) - (s : Int) - (q : Int) := by omega
      have nk0 : ¬ ((k : Int) = 0) := hz
      have u1 : IntKind.i64.wrap ((u : Int) + 1) = (u : Int) + 1 := IntWalk.i64_in _ (by omega)
      have o1 : IntKind.i64.wrap ((o : Int) + 1) = (o : Int) + 1 := IntWalk.i64_in _ (by omega)
      have HQ := Lib.hid hq
      have g0 : decide ((0 : Int) < (k : Int)) = true := decide_eq_true hr.1
      have g1 : decide ((k : Int) ≤ 60) = true := decide_eq_true hr.2
      clear hq hq2 hr60
      have fin : ∀ (w' : World) (o' : Nat), Below w0.heap.size w0 w' → o' = o + (if (k : Int) = 1 then 1 else 0) → Box w' w0.heap.size 110 #[.int .i64 ((1152921504606846976 : Int) - (s : Int) - (q : Int)), .int .i64 ((u : Int) + 1), .int .i64 (o' : Int)] → ∀ (d : Bool), d = decide ((0 : Int) ≤ (1152921504606846976 : Int) - (s : Int) - (q : Int)) → AddPost w0.heap.size k s u o w0 (.returned (.bool d)) w' := by
        intro w' o' hb ho' hx d hd
        refine ⟨d, rfl, hb, ?_⟩
        rw [HQ.out]
        by_cases hle : s + q ≤ 1152921504606846976
        · refine .inl ⟨by rw [hd]; exact decide_eq_true (by omega), by omega, by omega, hle, ?_⟩
          rw [ev, if_pos hr.1, ← ho']
          exact hx
        · exact .inr ⟨by rw [hd]; exact decide_eq_false (by omega), fun h => hle h.2.2⟩
      have FIN := Lib.hid fin
      clear fin
      obtain ⟨d, hd⟩ : ∃ d, decide ((0 : Int) ≤ (1152921504606846976 : Int) - (s : Int) - (q : Int)) = d := ⟨_, rfl⟩
      by_cases h1 : (k : Int) = 1
      · have n1 : decide ((k : Int) = 1) = true := decide_eq_true h1
        have HB1 := Lib.hid ((HB.out.put 2 (.int .i64 ((o : Int) + 1))).put 1 (.int .i64 ((u : Int) + 1)))
        have HBe1 := Lib.hid ((HBe.out.setCell (p := ⟨w0.heap.size, 2, none⟩) (Nat.le_refl _) (.int .i64 ((o : Int) + 1))).setCell (p := ⟨w0.heap.size, 1, none⟩) (Nat.le_refl _) (.int .i64 ((u : Int) + 1)))
        have HP := Lib.hid (HB.out.put 2 (.int .i64 ((o : Int) + 1)))
        have z1 := HP.out.cell 1
        have z1f := HP.out.frozen 1
        simp only [Array.getElem?_setIfInBounds, List.setIfInBounds_toArray, List.getElem?_toArray, List.set_cons_succ, List.set_cons_zero, List.getElem?_cons_zero, List.getElem?_cons_succ] at z1
        go_enter Try.func89, Try.ntmps89
        go_wp2_with fail
        clear b0 b1 b2 f0 f1 f2 bl z1 z1f HP
        have y0 := HB1.out.cell 0
        have g0f := HB1.out.frozen 0
        have gl := HB1.out.lt
        simp only [Array.getElem?_setIfInBounds, List.setIfInBounds_toArray, List.getElem?_toArray, List.set_cons_succ, List.set_cons_zero, List.getElem?_cons_zero, List.getElem?_cons_succ] at y0
        generalize (w.setCell ⟨w0.heap.size, 2, none⟩ (.int .i64 ((o : Int) + 1))).setCell ⟨w0.heap.size, 1, none⟩ (.int .i64 ((u : Int) + 1)) = w1 at *
        go_region
        have e9 : (576460752303423488 : Int) = (q : Int) := by
          have h2 := HQ.out
          rw [h1] at h2
          have h3 : hw 1 = 576460752303423488 := by rw [hw_pos (by omega)]; rfl
          omega
        rw [e9]
        have HB2 := Lib.hid (show Box ((w1.setCell ⟨w0.heap.size, 0, none⟩ (.int .i64 ((1152921504606846976 : Int) - (s : Int) - (q : Int)))).drew) w0.heap.size _ _ from HB1.out.put 0 (.int .i64 ((1152921504606846976 : Int) - (s : Int) - (q : Int))))
        have HBe2 := Lib.hid (HBe1.out.setCell (p := ⟨w0.heap.size, 0, none⟩) (Nat.le_refl _) (.int .i64 ((1152921504606846976 : Int) - (s : Int) - (q : Int)))).drew
        clear y0 g0f gl
        generalize (w1.setCell ⟨w0.heap.size, 0, none⟩ (.int .i64 ((1152921504606846976 : Int) - (s : Int) - (q : Int)))).drew = w2 at *
        have x0 := HB2.out.cell 0
        have xl := HB2.out.lt
        simp only [Array.getElem?_setIfInBounds, List.setIfInBounds_toArray, List.getElem?_toArray, List.set_cons_succ, List.set_cons_zero, List.getElem?_cons_zero, List.getElem?_cons_succ] at x0
        go_wp2_with fail
        go_ret
        exact FIN.out w2 (o + 1) HBe2.out (by rw [if_pos h1]) HB2.out _ (decide_eq_decide.mpr (by omega))
      · have n1 : decide ((k : Int) = 1) = false := decide_eq_false h1
        have HB1 := Lib.hid (HB.out.put 1 (.int .i64 ((u : Int) + 1)))
        have HBe1 := Lib.hid (HBe.out.setCell (p := ⟨w0.heap.size, 1, none⟩) (Nat.le_refl _) (.int .i64 ((u : Int) + 1)))
        go_enter Try.func89, Try.ntmps89
        go_wp2_with fail
        clear b0 b1 b2 f0 f1 f2 bl
        have y0 := HB1.out.cell 0
        have g0f := HB1.out.frozen 0
        have gl := HB1.out.lt
        simp only [Array.getElem?_setIfInBounds, List.setIfInBounds_toArray, List.getElem?_toArray, List.set_cons_succ, List.set_cons_zero, List.getElem?_cons_zero, List.getElem?_cons_succ] at y0
        generalize w.setCell ⟨w0.heap.size, 1, none⟩ (.int .i64 ((u : Int) + 1)) = w1 at *
        go_region
        rw [ep, ew]
        have HB2 := Lib.hid (show Box ((w1.setCell ⟨w0.heap.size, 0, none⟩ (.int .i64 ((1152921504606846976 : Int) - (s : Int) - (q : Int)))).drew) w0.heap.size _ _ from HB1.out.put 0 (.int .i64 ((1152921504606846976 : Int) - (s : Int) - (q : Int))))
        have HBe2 := Lib.hid (HBe1.out.setCell (p := ⟨w0.heap.size, 0, none⟩) (Nat.le_refl _) (.int .i64 ((1152921504606846976 : Int) - (s : Int) - (q : Int)))).drew
        clear y0 g0f gl
        generalize (w1.setCell ⟨w0.heap.size, 0, none⟩ (.int .i64 ((1152921504606846976 : Int) - (s : Int) - (q : Int)))).drew = w2 at *
        have x0 := HB2.out.cell 0
        have xl := HB2.out.lt
        simp only [Array.getElem?_setIfInBounds, List.setIfInBounds_toArray, List.getElem?_toArray, List.set_cons_succ, List.set_cons_zero, List.getElem?_cons_zero, List.getElem?_cons_succ] at x0
        go_wp2_with fail
        go_ret
        exact FIN.out w2 o HBe2.out (by rw [if_neg h1]; rfl) HB2.out _ (decide_eq_decide.mpr (by omega))
    · have n1 : decide (x = 1) = false := decide_eq_false (by omega)
      have hneg : ¬ (0 ≤ x ∧ x ≤ 60 ∧ s + hw x ≤ 1152921504606846976) := by omega
      have HN := Lib.hid hneg
      clear b0 b1 b2 f0 f1 f2 hneg
      by_cases hx0 : 0 < x
      · have g0 : decide ((0 : Int) < x) = true := decide_eq_true hx0
        have g1 : decide (x ≤ 60) = false := decide_eq_false (by omega)
        go_enter Try.func89, Try.ntmps89
        go_wp2
        go_ret
        exact ⟨false, rfl, HBe.out, .inr ⟨rfl, HN.out⟩⟩
      · have g0 : decide ((0 : Int) < x) = false := decide_eq_false hx0
        go_enter Try.func89, Try.ntmps89
        go_wp2
        go_ret
        exact ⟨false, rfl, HBe.out, .inr ⟨rfl, HN.out⟩⟩

set_option maxHeartbeats 800000 in
theorem huffSumOk_any (b : Nat) (s u o : Nat) (w : World) (hb : Box w b 110 #[.int .i64 ((1152921504606846976 : Int) - s), .int .i64 u, .int .i64 o]) :
    Calls Try.prog 90 #[.pointer (some ⟨b, 0, none⟩)] w fun e w' => e = .returned (.bool (decide (s = 1152921504606846976 ∨ (u = 1 ∧ o = 1)))) ∧ w = w' := by
  have b0 := hb.cell 0
  have b1 := hb.cell 1
  have b2 := hb.cell 2
  have bl := hb.lt
  simp only [List.getElem?_toArray, List.getElem?_cons_zero, List.getElem?_cons_succ] at b0 b1 b2
  clear hb
  by_cases h0 : s = 1152921504606846976
  · have t0 : ((1152921504606846976 : Int) - (s : Int) == 0) = true := by rw [beq_iff_eq]; omega
    rw [decide_eq_true (show s = 1152921504606846976 ∨ (u = 1 ∧ o = 1) from .inl h0)]
    clear h0
    go_enter Try.func90, Try.ntmps90
    go_wp2
    go_ret
    exact ⟨rfl, rfl⟩
  · have t0 : ((1152921504606846976 : Int) - (s : Int) == 0) = false := by rw [beq_eq_false_iff_ne]; omega
    by_cases h1 : u = 1
    · have t1 : ((u : Int) == 1) = true := by rw [beq_iff_eq]; omega
      by_cases h2 : o = 1
      · have t2 : ((o : Int) == 1) = true := by rw [beq_iff_eq]; omega
        rw [decide_eq_true (show s = 1152921504606846976 ∨ (u = 1 ∧ o = 1) from .inr ⟨h1, h2⟩)]
        clear h0 h1 h2
        go_enter Try.func90, Try.ntmps90
        go_wp2
        go_ret
        exact ⟨rfl, rfl⟩
      · have t2 : ((o : Int) == 1) = false := by rw [beq_eq_false_iff_ne]; omega
        rw [decide_eq_false (show ¬ (s = 1152921504606846976 ∨ (u = 1 ∧ o = 1)) from by omega)]
        clear h0 h1 h2
        go_enter Try.func90, Try.ntmps90
        go_wp2
        go_ret
        exact ⟨rfl, rfl⟩
    · have t1 : ((u : Int) == 1) = false := by rw [beq_eq_false_iff_ne]; omega
      rw [decide_eq_false (show ¬ (s = 1152921504606846976 ∨ (u = 1 ∧ o = 1)) from by omega)]
      clear h0 h1
      go_enter Try.func90, Try.ntmps90
      go_wp2
      go_ret
      exact ⟨rfl, rfl⟩

set_option maxHeartbeats 1600000 in
theorem implHuffOk_in (A : Option Addr) (n c : Nat) (L : List Int) (w : World) (hL : Lies w I A L) (Hn : Hid (L.length = n)) (hn : n ≤ 300) :
    Calls Try.prog 43 #[.slice A n c] w fun e w' => e = .returned (.bool (okH L)) ∧ Below w.heap.size w w' := by
  have HL := Lib.hid hL
  clear hL
  have hd : decide ((300 : Int) < (n : Int)) = false := by simp; omega
  have HB0 : Hid (Box (w.alloc (.cells #[.int .i64 1152921504606846976, .int .i64 0, .int .i64 0] 110)) w.heap.size 110 #[.int .i64 ((1152921504606846976 : Int) - ((0 : Nat) : Int)), .int .i64 ((0 : Nat) : Int), .int .i64 ((0 : Nat) : Int)]) := Lib.hid (Box.made _ _ _)
  have HBe0 : Hid (Below w.heap.size w (w.alloc (.cells #[.int .i64 1152921504606846976, .int .i64 0, .int .i64 0] 110))) := Lib.hid ((Below.refl _ _).alloc (Nat.le_refl _) _)
  go_enter Try.func43, Try.ntmps43
  go_wp2_with fail
  generalize w.alloc (.cells #[.int .i64 1152921504606846976, .int .i64 0, .int .i64 0] 110) = w1 at *
  go_loopw [12] (fun i wr => ∃ k : Nat, k ≤ n ∧ i = .int .i64 k ∧ Hid (hgood L k) ∧ Hid (Box wr w.heap.size 110 #[.int .i64 ((1152921504606846976 : Int) - ((hsum (L.take k) : Nat) : Int)), .int .i64 ((hcnt (L.take k) : Nat) : Int), .int .i64 ((hone (L.take k) : Nat) : Int)]) ∧ Hid (Below w.heap.size w wr)) (fun i _ => n - (intOf i).toNat)
  case atStart => exact ⟨0, Nat.zero_le _, rfl, Lib.hid (hgood_zero L), HB0, HBe0⟩
  case round =>
    obtain ⟨k, hk, rfl, HG, HB, HBe⟩ := hrel
    clear HB0 HBe0
    by_cases hlt : k < n
    · obtain ⟨b, o, x, hA, hbl, hx, hc⟩ := (HL.out.below HBe.out).at_ (i := k) (by rw [Hn.out]; exact hlt)
      have HX := Lib.hid hx
      have hs := HG.out.2
      have hcn : hcnt (L.take k) ≤ 300 := Nat.le_trans (hcnt_le _) (by rw [List.length_take]; omega)
      have hon : hone (L.take k) ≤ 300 := Nat.le_trans (hone_le _) hcn
      have HC := Lib.hid (huffAdd_any w.heap.size x (hsum (L.take k)) (hcnt (L.take k)) (hone (L.take k)) w _ HB.out rfl HBe.out hs (by omega) (by omega))
      subst hA
      clear hx hs hcn hon HB HBe
      go_wp2_with fail
      refine HC.out.mono ?_
      rintro e w2 ⟨r, rfl, hb2, ⟨rfl, h1, h2, h3, h4⟩ | ⟨rfl, h1⟩⟩
      · rw [← hsum_take HX.out, ← hcnt_take HX.out, ← hone_take HX.out] at h4
        have HB2 := Lib.hid h4
        have HBe2 := Lib.hid hb2
        have HG2 := Lib.hid (hgood_succ HG.out HX.out h1 h2 h3)
        clear h1 h2 h3 h4 hb2 HC hc hbl
        go_wp2
        go_round
        case rel => exact ⟨k + 1, by omega, by go_num, HG2, HB2, HBe2⟩
        case measure => simp [intOf]; omega
      · have HF : Hid (okH L = false) := Lib.hid (by
          by_cases h2 : 0 ≤ x ∧ x ≤ 60
          · exact hover HX.out fun h3 => h1 ⟨h2.1, h2.2, h3⟩
          · exact okH_bad HX.out h2)
        have HBe2 := Lib.hid hb2
        clear h1 hb2 HC hc hbl
        go_wp2
        go_ret
        exact ⟨ret_bool HF.out.symm, HBe2.out⟩
    · obtain rfl : k = n := by omega
      have hT : L.take k = L := List.take_of_length_le (by rw [Hn.out]; exact Nat.le_refl _)
      rw [hT] at HB
      have HE := Lib.hid (okH_end' (L := L) (by rw [Hn.out]; exact hn) (hgood_all (by rw [Hn.out]; exact HG.out)))
      have hC := huffSumOk_any w.heap.size _ _ _ _ HB.out
      rw [show decide (hsum L = 1152921504606846976 ∨ (hcnt L = 1 ∧ hone L = 1)) = okH L from HE.out.symm] at hC
      have HC := Lib.hid hC
      clear hT HB hC
      go_wp2_with fail
      refine HC.out.mono ?_
      rintro e w2 ⟨rfl, rfl⟩
      clear HC
      go_wp2
      go_ret
      exact ⟨rfl, HBe.out⟩

theorem implHuffOk_any (A : Option Addr) (c : Nat) (L : List Int) (w : World) (hL : Lies w I A L) :
    Calls Try.prog 43 #[.slice A L.length c] w fun e w' => e = .returned (.bool (okH L)) ∧ Below w.heap.size w w' := by
  by_cases h : L.length ≤ 300
  · exact implHuffOk_in A L.length c L w hL (Lib.hid rfl) h
  · have HE := Lib.hid (okH_big (L := L) (by omega))
    generalize L.length = n at *
    clear hL
    have hd : decide ((300 : Int) < (n : Int)) = true := by simp; omega
    go_enter Try.func43, Try.ntmps43
    go_wp2
    go_ret
    exact ⟨ret_bool HE.out.symm, Below.refl _ _⟩

theorem hw_pow {x : Int} (h0 : 0 < x) (h1 : x ≤ 60) : hw x = 2 ^ (60 - x.toNat) := by
  rw [hw_pos h0]; congr 1; omega

set_option maxHeartbeats 1600000 in
theorem specHuffOk_in (A : Option Addr) (n c : Nat) (L : List Int) (w : World) (hL : Lies w I A L) (Hn : Hid (L.length = n)) (hn : n ≤ 300) :
    Calls Try.prog 41 #[.slice A n c] w fun e w' => e = .returned (.bool (okH L)) ∧ w = w' := by
  have HL := Lib.hid hL
  clear hL
  have hd : decide ((300 : Int) < (n : Int)) = false := by simp; omega
  have CP := Lib.hid fun (i : Nat) (h : i < 62) => powW_any i w h
  have p60 : (2 ^ 60 : Nat) = 1152921504606846976 := by decide
  have C60 : Hid (Calls Try.prog 64 #[.int .i64 60] w fun e w' => e = .returned (.int .i64 1152921504606846976) ∧ w = w') := Lib.hid (by
    have := CP.out 60 (by omega)
    rw [p60] at this
    exact this)
  clear p60
  go_enter Try.func41, Try.ntmps41
  go_wp2_with fail
  go_loop [3, 4, 5, 6] (fun u s l i => ∃ k : Nat, k ≤ n ∧ i = .int .i64 k ∧ Hid (hgood L k) ∧ u = .int .i64 ((hcnt (L.take k) : Nat) : Int) ∧ s = .int .i64 ((hsum (L.take k) : Nat) : Int) ∧ l = .int .i64 (hlast (L.take k) 0)) (fun _ _ _ i => n - (intOf i).toNat)
  case atStart => exact ⟨0, Nat.zero_le _, rfl, Lib.hid (hgood_zero L), rfl, rfl, rfl⟩
  case round =>
    obtain ⟨k, hk, rfl, HG, rfl, rfl, rfl⟩ := hrel
    by_cases hlt : k < n
    · obtain ⟨b, o, x, hA, hbl, hx, hc⟩ := HL.out.at_ (i := k) (by rw [Hn.out]; exact hlt)
      have HX := Lib.hid hx
      have hs := HG.out.2
      have hcn : hcnt (L.take k) ≤ 300 := Nat.le_trans (hcnt_le _) (by rw [List.length_take]; omega)
      subst hA
      clear hx
      by_cases hr : 0 ≤ x ∧ x ≤ 60
      · have d1 : decide (x < 0) = false := by simp; omega
        have d2 : decide (60 < x) = false := by simp; omega
        by_cases h0 : 0 < x
        · have d3 : decide (0 < x) = true := by simp; omega
          have e60 : IntKind.i64.wrap (60 - x) = ((60 - x.toNat : Nat) : Int) := by rw [IntWalk.i64_in _ (by omega)]; omega
          have CX := CP.out (60 - x.toNat) (by omega)
          rw [← hw_pow h0 hr.2] at CX
          have hu := hcnt_take HX.out
          have hss := hsum_take HX.out
          have hll := hlast_take HX.out
          rw [if_pos h0] at hu hll
          have hq := hw_le2 x
          have HG2 := Lib.hid fun h => hgood_succ HG.out HX.out hr.1 hr.2 h
          have HN2 := Lib.hid fun h => hover HX.out (L := L) (k := k) h
          have HU := Lib.hid hu
          have HSS := Lib.hid hss
          have HLL := Lib.hid hll
          obtain ⟨u, hu0⟩ : ∃ u, hcnt (L.take k) = u := ⟨_, rfl⟩
          obtain ⟨s, hs0⟩ : ∃ s, hsum (L.take k) = s := ⟨_, rfl⟩
          obtain ⟨la, hla⟩ : ∃ la, hlast (L.take k) 0 = la := ⟨_, rfl⟩
          obtain ⟨q, hq0⟩ : ∃ q, hw x = q := ⟨_, rfl⟩
          obtain ⟨r, hr0⟩ : ∃ r, 60 - x.toNat = r := ⟨_, rfl⟩
          rw [hu0] at hcn HU ⊢
          rw [hs0] at hs HSS HG2 HN2 ⊢
          rw [hq0] at hq HSS HG2 HN2 CX
          rw [hr0] at CX e60
          rw [hla]
          have CX1 := Lib.hid CX
          clear hu hss hll CX HG hu0 hs0 hla hq0 hr0
          by_cases hov : s + q ≤ 1152921504606846976
          · have d4 : decide ((1152921504606846976 : Int) < (s : Int) + (q : Int)) = false := by simp; omega
            have HG3 := Lib.hid (HG2.out hov)
            clear HG2 HN2
            go_wp2_with fail
            refine CX1.out.mono ?_
            rintro e w2 ⟨rfl, rfl⟩
            go_wp2_with fail
            refine C60.out.mono ?_
            rintro e w2 ⟨rfl, rfl⟩
            clear e60 CX1
            go_wp2
            go_round
            case rel => exact ⟨k + 1, by omega, by go_num, HG3, by rw [HU.out]; go_num, by rw [HSS.out]; go_num, by rw [HLL.out]⟩
            case measure => simp [intOf]; omega
          · have d4 : decide ((1152921504606846976 : Int) < (s : Int) + (q : Int)) = true := by simp; omega
            have HF := Lib.hid (HN2.out hov)
            clear HG2 HN2
            go_wp2_with fail
            refine CX1.out.mono ?_
            rintro e w2 ⟨rfl, rfl⟩
            go_wp2_with fail
            refine C60.out.mono ?_
            rintro e w2 ⟨rfl, rfl⟩
            clear e60 CX1
            go_wp2
            go_ret
            exact ⟨ret_bool HF.out.symm, rfl⟩
        · have d3 : decide (0 < x) = false := by simp; omega
          have HG3 := Lib.hid (hgood_succ HG.out HX.out hr.1 hr.2 (by rw [hw_zero h0]; omega))
          have hu := hcnt_take HX.out
          have hss := hsum_take HX.out
          have hll := hlast_take HX.out
          rw [if_neg h0] at hu hll
          rw [hw_zero h0] at hss
          rw [Nat.add_zero (hcnt (L.take k))] at hu
          rw [Nat.add_zero (hsum (L.take k))] at hss
          have HU := Lib.hid hu
          have HSS := Lib.hid hss
          have HLL := Lib.hid hll
          clear hu hss hll hs hcn
          go_wp2
          go_round
          case rel => exact ⟨k + 1, by omega, by go_num, HG3, by rw [HU.out], by rw [HSS.out], by rw [HLL.out]⟩
          case measure => simp [intOf]; omega
      · have HF := Lib.hid (okH_bad HX.out hr)
        clear hs hcn
        by_cases hneg : x < 0
        · have d1 : decide (x < 0) = true := decide_eq_true hneg
          go_wp2
          go_ret
          exact ⟨ret_bool HF.out.symm, rfl⟩
        · have d1 : decide (x < 0) = false := decide_eq_false hneg
          have d2 : decide (60 < x) = true := by simp; omega
          go_wp2
          go_ret
          exact ⟨ret_bool HF.out.symm, rfl⟩
    · obtain rfl : k = n := by omega
      have hT : L.take k = L := List.take_of_length_le (by rw [Hn.out]; exact Nat.le_refl _)
      have hE := okH_end (L := L) (by rw [Hn.out]; exact hn) (hgood_all (by rw [Hn.out]; exact HG.out))
      rw [show (2 ^ 60 : Nat) = 1152921504606846976 by decide] at hE
      rw [hT]
      clear hT HG
      obtain ⟨u, hu0⟩ : ∃ u, hcnt L = u := ⟨_, rfl⟩
      obtain ⟨s, hs0⟩ : ∃ s, hsum L = s := ⟨_, rfl⟩
      obtain ⟨la, hla⟩ : ∃ la, hlast L 0 = la := ⟨_, rfl⟩
      rw [hu0, hs0, hla] at hE
      rw [hu0, hs0, hla]
      clear hu0 hs0 hla
      by_cases h1 : u = 1 ∧ la = 1
      · have t1 : ((u : Int) == 1) = true := by rw [beq_iff_eq]; omega
        have t2 : (la == 1) = true := by rw [beq_iff_eq]; omega
        have hE2 : Hid (okH L = true) := Lib.hid (by rw [hE, decide_eq_true h1]; rfl)
        clear hE h1
        go_wp2
        go_ret
        exact ⟨ret_bool hE2.out.symm, rfl⟩
      · rw [decide_eq_false h1, Bool.false_or] at hE
        have HE := Lib.hid hE
        clear hE
        by_cases h2 : u = 1
        · have t1 : ((u : Int) == 1) = true := by rw [beq_iff_eq]; omega
          have t2 : (la == 1) = false := by rw [beq_eq_false_iff_ne]; omega
          clear h1 h2
          go_wp2_with fail
          refine C60.out.mono ?_
          rintro e w2 ⟨rfl, rfl⟩
          go_wp2
          go_ret
          exact ⟨ret_bool (by rw [HE.out, Bool.eq_iff_iff]; simp; omega), rfl⟩
        · have t1 : ((u : Int) == 1) = false := by rw [beq_eq_false_iff_ne]; omega
          clear h1 h2
          go_wp2_with fail
          refine C60.out.mono ?_
          rintro e w2 ⟨rfl, rfl⟩
          go_wp2
          go_ret
          exact ⟨ret_bool (by rw [HE.out, Bool.eq_iff_iff]; simp; omega), rfl⟩

theorem specHuffOk_any (A : Option Addr) (c : Nat) (L : List Int) (w : World) (hL : Lies w I A L) :
    Calls Try.prog 41 #[.slice A L.length c] w fun e w' => e = .returned (.bool (okH L)) ∧ w = w' := by
  by_cases h : L.length ≤ 300
  · exact specHuffOk_in A L.length c L w hL (Lib.hid rfl) h
  · have HE := Lib.hid (okH_big (L := L) (by omega))
    generalize L.length = n at *
    clear hL
    have hd : decide ((300 : Int) < (n : Int)) = true := by simp; omega
    go_enter Try.func41, Try.ntmps41
    go_wp2
    go_ret
    exact ⟨ret_bool HE.out.symm, rfl⟩

end Go.Proofs.Ytoehgcakfblblaa
