/- HuffSize, of the program and of the specification. -/
import Derived.Test.YtoehgcakfblblaaHf1
namespace Go.Proofs.Ytoehgcakfblblaa
open Go.RowKit
set_option maxRecDepth 100000

set_option maxHeartbeats 400000 in
theorem isCount_any (x : Int) (w : World) : Calls Try.prog 84 #[.int .i64 x] w fun e w' => e = .returned (.bool (decide (0 ≤ x ∧ x ≤ 1000000))) ∧ w = w' := by
  by_cases h0 : 0 ≤ x
  · have d0 : decide (0 ≤ x) = true := decide_eq_true h0
    by_cases h1 : x ≤ 1000000
    · have d1 : decide (x ≤ 1000000) = true := decide_eq_true h1
      rw [decide_eq_true (show 0 ≤ x ∧ x ≤ 1000000 from ⟨h0, h1⟩)]
      go_enter Try.func84, Try.ntmps84
      go_wp2
      go_ret
      exact ⟨rfl, rfl⟩
    · have d1 : decide (x ≤ 1000000) = false := decide_eq_false h1
      rw [decide_eq_false (show ¬ (0 ≤ x ∧ x ≤ 1000000) by omega)]
      go_enter Try.func84, Try.ntmps84
      go_wp2
      go_ret
      exact ⟨rfl, rfl⟩
  · have d0 : decide (0 ≤ x) = false := decide_eq_false h0
    rw [decide_eq_false (show ¬ (0 ≤ x ∧ x ≤ 1000000) by omega)]
    go_enter Try.func84, Try.ntmps84
    go_wp2
    go_ret
    exact ⟨rfl, rfl⟩

/-- The first k counts are counts. -/
def cgood (C : List Int) (k : Nat) : Prop := ∀ j < k, ∀ x, C[j]? = some x → 0 ≤ x ∧ x ≤ 1000000
theorem cgood_succ {C : List Int} {k : Nat} {x : Int} (h : cgood C k) (hx : C[k]? = some x) (h0 : 0 ≤ x ∧ x ≤ 1000000) : cgood C (k + 1) := fun j hj y hy => by
  by_cases e : j = k
  · subst e
    rw [hx] at hy
    cases hy
    exact h0
  · exact h j (by omega) y hy
theorem cgood_ok {C : List Int} (h : cgood C C.length) (hl : C.length ≤ 300) : okC C = true := by
  rw [okC_iff]
  refine ⟨hl, fun c hc => ?_⟩
  obtain ⟨j, hj⟩ := List.mem_iff_getElem?.1 hc
  exact h j (List.getElem?_eq_some_iff.mp hj).1 c hj

set_option maxHeartbeats 800000 in
theorem specCounts8_in (A : Option Addr) (n c : Nat) (C : List Int) (w : World) (hL : Lies w I A C) (Hn : Hid (C.length = n)) (hn : n ≤ 300) :
    Calls Try.prog 80 #[.slice A n c] w fun e w' => e = .returned (.bool (okC C)) ∧ w = w' := by
  have hd : decide ((300 : Int) < (n : Int)) = false := by simp; omega
  go_enter Try.func80, Try.ntmps80
  go_wp2
  go_loop [3] (fun i => ∃ k : Nat, k ≤ n ∧ i = .int .i64 k ∧ Hid (cgood C k)) (fun i => n - (intOf i).toNat)
  case atStart => exact ⟨0, Nat.zero_le _, rfl, Lib.hid fun j hj => by omega⟩
  case round =>
    obtain ⟨k, hk, rfl, HS⟩ := hrel
    by_cases hlt : k < n
    · obtain ⟨b, o, x, hA, hbl, hx, hc⟩ := hL.at_ (i := k) (by rw [Hn.out]; exact hlt)
      subst hA
      have HX := Lib.hid hx
      clear hx
      by_cases hneg : x < 0
      · have HE := Lib.hid (okC_bad HX.out (by omega))
        have h1 : decide (x < 0) = true := by simpa using hneg
        go_wp2
        go_ret
        exact ⟨ret_bool HE.out.symm, rfl⟩
      · have h1 : decide (x < 0) = false := by simp; omega
        by_cases hge : 1000000 < x
        · have HE := Lib.hid (okC_bad HX.out (by omega))
          have h2 : decide (1000000 < x) = true := by simpa using hge
          go_wp2
          go_ret
          exact ⟨ret_bool HE.out.symm, rfl⟩
        · have h2 : decide (1000000 < x) = false := by simp; omega
          have HS2 := Lib.hid (cgood_succ HS.out HX.out ⟨by omega, by omega⟩)
          go_wp2
          go_round
          case rel => exact ⟨k + 1, by omega, by go_num, HS2⟩
          case measure => simp [intOf]; omega
    · obtain rfl : k = n := by omega
      have HE : Hid (okC C = true) := Lib.hid (cgood_ok (by rw [Hn.out]; exact HS.out) (by rw [Hn.out]; exact hn))
      go_wp2
      go_ret
      exact ⟨ret_bool HE.out.symm, rfl⟩
theorem specCounts8_any (A : Option Addr) (c : Nat) (C : List Int) (w : World) (hL : Lies w I A C) :
    Calls Try.prog 80 #[.slice A C.length c] w fun e w' => e = .returned (.bool (okC C)) ∧ w = w' := by
  by_cases h : C.length ≤ 300
  · exact specCounts8_in A C.length c C w hL (Lib.hid rfl) h
  · have HE : Hid (okC C = false) := Lib.hid (by unfold okC; rw [decide_eq_false (by omega)]; rfl)
    generalize C.length = n at *
    clear hL
    have hd : decide ((300 : Int) < (n : Int)) = true := by simp; omega
    go_enter Try.func80, Try.ntmps80
    go_wp2
    go_ret
    exact ⟨ret_bool HE.out.symm, rfl⟩

/-- The first k counts fit their lengths. -/
def fgood (C L : List Int) (k : Nat) : Prop := ∀ j < k, ∀ x y, C[j]? = some x → L[j]? = some y → ¬ (0 < x ∧ y = 0)
theorem fgood_succ {C L : List Int} {k : Nat} {x y : Int} (h : fgood C L k) (hx : C[k]? = some x) (hy : L[k]? = some y) (h0 : ¬ (0 < x ∧ y = 0)) : fgood C L (k + 1) := fun j hj a b ha hb => by
  by_cases e : j = k
  · subst e
    rw [hx] at ha
    rw [hy] at hb
    cases ha
    cases hb
    exact h0
  · exact h j (by omega) a b ha hb
theorem hsize_ne {C L : List Int} (h : C.length ≠ L.length) : hsize C L = -1 := if_neg fun h2 => h h2.1
theorem hsize_bad {C L : List Int} (h : okH L = false) : hsize C L = -1 := if_neg fun h2 => by rw [h] at h2; exact absurd h2.2.1 (by decide)
theorem hsize_badC {C L : List Int} (h : okC C = false) : hsize C L = -1 := if_neg fun h2 => by rw [h] at h2; exact absurd h2.2.2.1 (by decide)
theorem hsize_cnt {C L : List Int} {i : Nat} {x : Int} (hi : C[i]? = some x) (hx : ¬ (0 ≤ x ∧ x ≤ 1000000)) : hsize C L = -1 := hsize_badC (okC_bad hi hx)
theorem hsize_fit {C L : List Int} {i : Nat} {x y : Int} (hi : C[i]? = some x) (hy : L[i]? = some y) (hx : 0 < x ∧ y = 0) : hsize C L = -1 :=
  if_neg fun h2 => (hfit_iff C L h2.1).mp h2.2.2.2 i x y hi hy hx
theorem hsize_end {C L : List Int} (h1 : C.length = L.length) (h2 : okH L = true) (h3 : cgood C C.length) (h4 : fgood C L C.length) : hsize C L = hdot C L := by
  refine if_pos ⟨h1, h2, cgood_ok h3 (by have := okH_len h2; omega), (hfit_iff C L h1).mpr fun i c l hc hl => ?_⟩
  exact h4 i (List.getElem?_eq_some_iff.mp hc).1 c l hc hl
theorem dot_bound {C L : List Int} (h1 : C.length = L.length) (h2 : okH L = true) {k : Nat} (h3 : cgood C k) (hk : k ≤ C.length) : 0 ≤ hdot (C.take k) (L.take k) ∧ hdot (C.take k) (L.take k) ≤ k * 60000000 := by
  refine hdot_bound (C.take k) (L.take k) k (by rw [List.length_take]; omega) (by rw [List.length_take]; omega) ?_ ?_
  · intro c hc
    obtain ⟨j, hj⟩ := List.mem_iff_getElem?.1 hc
    have hjk : j < k := by have := (List.getElem?_eq_some_iff.mp hj).1; rw [List.length_take] at this; omega
    rw [List.getElem?_take_of_lt hjk] at hj
    exact h3 j hjk c hj
  · intro l hl
    exact okH_all h2 l (List.mem_of_mem_take hl)

set_option maxHeartbeats 1600000 in
theorem implHuffSize_in (A B : Option Addr) (n c d : Nat) (C L : List Int) (w : World) (hC : Lies w I A C) (hL : Lies w I B L) (HnC : Hid (C.length = n)) (HnL : Hid (L.length = n)) (hn : n ≤ 17592186044416) :
    Calls Try.prog 36 #[.slice A n c, .slice B n d] w fun e w' => e = .returned (.int .i64 (hsize C L)) ∧ Below w.heap.size w w' := by
  have HC := Lib.hid hC
  have HL := Lib.hid hL
  have hok := implHuffOk_any B d L w hL
  rw [HnL.out] at hok
  clear hC hL
  cases e : okH L with
  | false =>
    have HE := Lib.hid (hsize_bad (C := C) e)
    rw [e] at hok
    have OK := Lib.hid hok
    clear hok e
    have tn : ((n : Int) != (n : Int)) = false := by simp
    go_enter Try.func36, Try.ntmps36
    go_wp2_with fail
    refine OK.out.mono ?_
    rintro e w1 ⟨rfl, hb1⟩
    have HB1 := Lib.hid hb1
    clear hb1
    go_wp2
    go_ret
    exact ⟨ret_int HE.out.symm, HB1.out⟩
  | true =>
    have HOk := Lib.hid e
    have hn3 := okH_len e
    rw [HnL.out] at hn3
    rw [e] at hok
    have OK := Lib.hid hok
    clear hok e
    have tn : ((n : Int) != (n : Int)) = false := by simp
    go_enter Try.func36, Try.ntmps36
    go_wp2_with fail
    refine OK.out.mono ?_
    rintro e w1 ⟨rfl, hb1⟩
    have HB1 := Lib.hid hb1
    have HC1 := Lib.hid (HC.out.below hb1)
    have HL1 := Lib.hid (HL.out.below hb1)
    clear hb1 OK HC HL
    go_wp2
    go_loop [5, 20] (fun s i => ∃ (k : Nat) (t : Int), k ≤ n ∧ i = .int .i64 k ∧ s = .int .i64 t ∧ 0 ≤ t ∧ t ≤ k * 60000000 ∧ Hid (cgood C k) ∧ Hid (fgood C L k) ∧ Hid (t = hdot (C.take k) (L.take k))) (fun _ i => n - (intOf i).toNat)
    case atStart => exact ⟨0, 0, Nat.zero_le _, rfl, rfl, by omega, by omega, Lib.hid fun j hj => by omega, Lib.hid fun j hj => by omega, Lib.hid (by simp [hdot])⟩
    case round =>
      obtain ⟨k, t, hk, rfl, rfl, ht0, ht1, HG, HF, HT⟩ := hrel
      by_cases hlt : k < n
      · obtain ⟨b, o, x, hA, hbl, hx, hc⟩ := HC1.out.at_ (i := k) (by rw [HnC.out]; exact hlt)
        obtain ⟨b', o', y, hA', hbl', hy, hc'⟩ := HL1.out.at_ (i := k) (by rw [HnL.out]; exact hlt)
        subst hA
        subst hA'
        have HX := Lib.hid hx
        have HY := Lib.hid hy
        have hyr := okH_all HOk.out y (List.mem_of_getElem? hy)
        clear hx hy
        by_cases hcx : 0 ≤ x ∧ x ≤ 1000000
        · have hfx : decide (0 ≤ x ∧ x ≤ 1000000) = true := decide_eq_true hcx
          by_cases hfit : 0 < x ∧ y = 0
          · have HE := Lib.hid (hsize_fit HX.out HY.out hfit)
            have d1 : decide (0 < x) = true := decide_eq_true hfit.1
            have d2 : (y == 0) = true := by rw [beq_iff_eq]; exact hfit.2
            clear hfit
            go_wp2_with fail
            refine (isCount_any x w1).mono ?_
            rintro e w2 ⟨rfl, rfl⟩
            simp only [hfx]
            go_wp2
            go_ret
            exact ⟨ret_int HE.out.symm, HB1.out⟩
          · have HG2 := Lib.hid (cgood_succ HG.out HX.out hcx)
            have HF2 := Lib.hid (fgood_succ HF.out HX.out HY.out hfit)
            have HT2 := Lib.hid (hdot_take C L k x y HX.out HY.out)
            have hp0 : 0 ≤ x * y := Int.mul_nonneg hcx.1 hyr.1
            have hp1 : x * y ≤ 1000000 * 60 := Int.le_trans (Int.mul_le_mul_of_nonneg_right hcx.2 hyr.1) (Int.mul_le_mul_of_nonneg_left hyr.2 (by omega))
            obtain ⟨p, hp⟩ : ∃ p, x * y = p := ⟨_, rfl⟩
            rw [hp] at hp0 hp1 HT2
            have e1 : IntKind.i64.wrap (x * y) = p := by rw [hp]; exact IntWalk.i64_in _ (by omega)
            have e2 : IntKind.i64.wrap (t + p) = t + p := IntWalk.i64_in _ (by omega)
            have HT3 : Hid (t + p = hdot (C.take (k + 1)) (L.take (k + 1))) := Lib.hid (by rw [HT2.out, HT.out])
            clear HT HT2 HG HF
            by_cases hx0 : 0 < x
            · have d1 : decide (0 < x) = true := decide_eq_true hx0
              have d2 : (y == 0) = false := by rw [beq_eq_false_iff_ne]; omega
              clear hfit
              go_wp2_with fail
              refine (isCount_any x w1).mono ?_
              rintro e w2 ⟨rfl, rfl⟩
              simp only [hfx]
              go_wp2
              go_round
              case rel => exact ⟨k + 1, t + p, by omega, by go_num, by first | rfl | go_num, by omega, by omega, HG2, HF2, HT3⟩
              case measure => simp [intOf]; omega
            · have d1 : decide (0 < x) = false := decide_eq_false hx0
              clear hfit
              go_wp2_with fail
              refine (isCount_any x w1).mono ?_
              rintro e w2 ⟨rfl, rfl⟩
              simp only [hfx]
              go_wp2
              go_round
              case rel => exact ⟨k + 1, t + p, by omega, by go_num, by first | rfl | go_num, by omega, by omega, HG2, HF2, HT3⟩
              case measure => simp [intOf]; omega
        · have hfx : decide (0 ≤ x ∧ x ≤ 1000000) = false := decide_eq_false hcx
          have HE := Lib.hid (hsize_cnt (L := L) HX.out hcx)
          clear hcx
          go_wp2_with fail
          refine (isCount_any x w1).mono ?_
          rintro e w2 ⟨rfl, rfl⟩
          simp only [hfx]
          go_wp2
          go_ret
          exact ⟨ret_int HE.out.symm, HB1.out⟩
      · obtain rfl : k = n := by omega
        have HE : Hid (t = hsize C L) := Lib.hid (by
          have h := HT.out
          rw [List.take_of_length_le (by rw [HnC.out]; exact Nat.le_refl _), List.take_of_length_le (by rw [HnL.out]; exact Nat.le_refl _)] at h
          rw [h]
          exact (hsize_end (HnC.out.trans HnL.out.symm) HOk.out (by rw [HnC.out]; exact HG.out) (by rw [HnC.out]; exact HF.out)).symm)
        clear HT
        go_wp2
        go_ret
        exact ⟨ret_int HE.out, HB1.out⟩

theorem implHuffSize_any (A B : Option Addr) (c d : Nat) (C L : List Int) (w : World) (hC : Lies w I A C) (hL : Lies w I B L) (hn : C.length ≤ 17592186044416) :
    Calls Try.prog 36 #[.slice A C.length c, .slice B L.length d] w fun e w' => e = .returned (.int .i64 (hsize C L)) ∧ Below w.heap.size w w' := by
  by_cases h : C.length = L.length
  · have := implHuffSize_in A B L.length c d C L w hC hL (Lib.hid h) (Lib.hid rfl) (by omega)
    rw [h]
    exact this
  · have HE := Lib.hid (hsize_ne h)
    have tn : ((C.length : Int) != (L.length : Int)) = true := by simp; omega
    clear hC hL
    generalize C.length = n at *
    generalize L.length = m at *
    go_enter Try.func36, Try.ntmps36
    go_wp2
    go_ret
    exact ⟨ret_int HE.out.symm, Below.refl _ _⟩

set_option maxHeartbeats 1600000 in
theorem specHuffSize_in (A B : Option Addr) (n c d : Nat) (C L : List Int) (w : World) (hC : Lies w I A C) (hL : Lies w I B L) (HnC : Hid (C.length = n)) (HnL : Hid (L.length = n)) (hn : n ≤ 17592186044416) :
    Calls Try.prog 37 #[.slice A n c, .slice B n d] w fun e w' => e = .returned (.int .i64 (hsize C L)) ∧ Below w.heap.size w w' := by
  have HC := Lib.hid hC
  have HL := Lib.hid hL
  have hok := specHuffOk_any B d L w hL
  rw [HnL.out] at hok
  have hcn := specCounts8_any A c C w hC
  rw [HnC.out] at hcn
  clear hC hL
  have tn : ((n : Int) != (n : Int)) = false := by simp
  cases e : okH L with
  | false =>
    have HE := Lib.hid (hsize_bad (C := C) e)
    rw [e] at hok
    have OK := Lib.hid hok
    clear hok e hcn
    go_enter Try.func37, Try.ntmps37
    go_wp2_with fail
    refine OK.out.mono ?_
    rintro e w1 ⟨rfl, rfl⟩
    go_wp2
    go_ret
    exact ⟨ret_int HE.out.symm, Below.refl _ _⟩
  | true =>
    have HOk := Lib.hid e
    have hn3 := okH_len e
    rw [HnL.out] at hn3
    rw [e] at hok
    have OK := Lib.hid hok
    clear hok e
    cases e2 : okC C with
    | false =>
      have HE := Lib.hid (hsize_badC (L := L) e2)
      rw [e2] at hcn
      have CN := Lib.hid hcn
      clear hcn e2
      go_enter Try.func37, Try.ntmps37
      go_wp2_with fail
      refine OK.out.mono ?_
      rintro e w1 ⟨rfl, rfl⟩
      go_wp2_with fail
      refine CN.out.mono ?_
      rintro e w1 ⟨rfl, rfl⟩
      go_wp2
      go_ret
      exact ⟨ret_int HE.out.symm, Below.refl _ _⟩
    | true =>
      have HOC := Lib.hid e2
      rw [e2] at hcn
      have CN := Lib.hid hcn
      clear hcn e2
      go_enter Try.func37, Try.ntmps37
      go_wp2_with fail
      refine OK.out.mono ?_
      rintro e w1 ⟨rfl, rfl⟩
      go_wp2_with fail
      refine CN.out.mono ?_
      rintro e w1 ⟨rfl, rfl⟩
      clear OK CN
      go_wp2
      go_loopw [5, 6] (fun s i wr => ∃ (k : Nat) (t : Int), k ≤ n ∧ i = .int .i64 k ∧ s = .int .i64 t ∧ 0 ≤ t ∧ t ≤ k * 60000000 ∧ Hid (fgood C L k) ∧ Hid (t = hdot (C.take k) (L.take k)) ∧ Hid (Below w.heap.size w wr)) (fun _ i _ => n - (intOf i).toNat)
      case atStart => exact ⟨0, 0, Nat.zero_le _, rfl, rfl, by omega, by omega, Lib.hid fun j hj => by omega, Lib.hid (by simp [hdot]), Lib.hid (Below.refl _ _)⟩
      case round =>
        obtain ⟨k, t, hk, rfl, rfl, ht0, ht1, HF, HT, HB⟩ := hrel
        by_cases hlt : k < n
        · obtain ⟨b, o, x, hA, hbl, hx, hc⟩ := (HC.out.below HB.out).at_ (i := k) (by rw [HnC.out]; exact hlt)
          obtain ⟨b', o', y, hA', hbl', hy, hc'⟩ := (HL.out.below HB.out).at_ (i := k) (by rw [HnL.out]; exact hlt)
          subst hA
          subst hA'
          have HX := Lib.hid hx
          have HY := Lib.hid hy
          have hyr := okH_all HOk.out y (List.mem_of_getElem? hy)
          have hcx := ((okC_iff C).mp HOC.out).2 x (List.mem_of_getElem? hx)
          clear hx hy
          by_cases hfit : 0 < x ∧ y = 0
          · have HE := Lib.hid (hsize_fit HX.out HY.out hfit)
            have d1 : decide (0 < x) = true := decide_eq_true hfit.1
            have d2 : (y == 0) = true := by rw [beq_iff_eq]; exact hfit.2
            clear hfit
            go_wp2
            go_ret
            exact ⟨ret_int HE.out.symm, HB.out⟩
          · have HF2 := Lib.hid (fgood_succ HF.out HX.out HY.out hfit)
            have HT2 := Lib.hid (hdot_take C L k x y HX.out HY.out)
            have hp0 : 0 ≤ x * y := Int.mul_nonneg hcx.1 hyr.1
            have hp1 : x * y ≤ 1000000 * 60 := Int.le_trans (Int.mul_le_mul_of_nonneg_right hcx.2 hyr.1) (Int.mul_le_mul_of_nonneg_left hyr.2 (by omega))
            obtain ⟨p, hp⟩ : ∃ p, x * y = p := ⟨_, rfl⟩
            rw [hp] at hp0 hp1 HT2
            have e1 : IntKind.i64.wrap (x * y) = p := by rw [hp]; exact IntWalk.i64_in _ (by omega)
            have e3 : wrap64 (x * y) = p := by rw [hp]; exact wrap64_in _ (by omega)
            have e2 : IntKind.i64.wrap (t + p) = t + p := IntWalk.i64_in _ (by omega)
            have e4 : wrap64 (t + p) = t + p := wrap64_in _ (by omega)
            have HT3 : Hid (t + p = hdot (C.take (k + 1)) (L.take (k + 1))) := Lib.hid (by rw [HT2.out, HT.out])
            clear HT HT2 HF
            by_cases hx0 : 0 < x
            · have d1 : decide (0 < x) = true := decide_eq_true hx0
              have d2 : (y == 0) = false := by rw [beq_eq_false_iff_ne]; omega
              clear hfit
              go_wp2_with fail
              have HBd := Lib.hid HB.out.drew
              go_region
              go_wp2
              go_roundw
              case rel => exact ⟨k + 1, t + p, by omega, by go_num, by first | rfl | go_num, by omega, by omega, HF2, HT3, HBd⟩
              case measure => simp [intOf]; omega
            · have d1 : decide (0 < x) = false := decide_eq_false hx0
              clear hfit
              go_wp2_with fail
              have HBd := Lib.hid HB.out.drew
              go_region
              go_wp2
              go_roundw
              case rel => exact ⟨k + 1, t + p, by omega, by go_num, by first | rfl | go_num, by omega, by omega, HF2, HT3, HBd⟩
              case measure => simp [intOf]; omega
        · obtain rfl : k = n := by omega
          have HE : Hid (t = hsize C L) := Lib.hid (by
            have h := HT.out
            rw [List.take_of_length_le (by rw [HnC.out]; exact Nat.le_refl _), List.take_of_length_le (by rw [HnL.out]; exact Nat.le_refl _)] at h
            rw [h]
            exact (hsize_end (HnC.out.trans HnL.out.symm) HOk.out (fun j hj x hx => ((okC_iff C).mp HOC.out).2 x (List.mem_of_getElem? hx)) (by rw [HnC.out]; exact HF.out)).symm)
          clear HT
          go_wp2
          go_ret
          exact ⟨ret_int HE.out, HB.out⟩

theorem specHuffSize_any (A B : Option Addr) (c d : Nat) (C L : List Int) (w : World) (hC : Lies w I A C) (hL : Lies w I B L) (hn : C.length ≤ 17592186044416) :
    Calls Try.prog 37 #[.slice A C.length c, .slice B L.length d] w fun e w' => e = .returned (.int .i64 (hsize C L)) ∧ Below w.heap.size w w' := by
  by_cases h : C.length = L.length
  · have := specHuffSize_in A B L.length c d C L w hC hL (Lib.hid h) (Lib.hid rfl) (by omega)
    rw [h]
    exact this
  · have HE := Lib.hid (hsize_ne h)
    have tn : ((C.length : Int) != (L.length : Int)) = true := by simp; omega
    clear hC hL
    generalize C.length = n at *
    generalize L.length = m at *
    go_enter Try.func37, Try.ntmps37
    go_wp2
    go_ret
    exact ⟨ret_int HE.out.symm, Below.refl _ _⟩

end Go.Proofs.Ytoehgcakfblblaa
