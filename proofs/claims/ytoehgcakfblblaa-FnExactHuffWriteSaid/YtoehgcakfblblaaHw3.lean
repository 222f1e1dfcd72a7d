/- HuffWrite of the program. -/
import Derived.Test.YtoehgcakfblblaaHw2
import Derived.Test.YtoehgcakfblblaaHf7
import Derived.Test.YtoehgcakfblblaaOf2
namespace Go.Proofs.Ytoehgcakfblblaa
open Go.RowKit
set_option maxRecDepth 100000

/-- One digit of a code, as the walk spells it. -/
theorem digit_h (x r : Nat) (hx : x < 2 ^ 62) : bits .and .i64 ((x : Int) / 2 ^ r) 1 = ((x / 2 ^ r % 2 : Nat) : Int) := by
  have hq : x / 2 ^ r < 2 ^ 62 := Nat.lt_of_le_of_lt (Nat.div_le_self _ _) hx
  rw [show (x : Int) / 2 ^ r = ((x / 2 ^ r : Nat) : Int) by simp]
  generalize x / 2 ^ r = a at *
  have e : (a : Int).toNat % 2 ^ 64 = a := by rw [Int.toNat_natCast]; exact Nat.mod_eq_of_lt (by omega)
  have h : bits .and .i64 (a : Int) 1 = IntKind.i64.wrap (((a : Int) % 2 ^ 64).toNat &&& ((1 : Int) % 2 ^ 64).toNat : Nat) := rfl
  rw [h, show (a : Int) % 2 ^ 64 = (a : Int) by omega, show (1 : Int) % 2 ^ 64 = ((1 : Nat) : Int) by decide, Int.toNat_natCast, Int.toNat_natCast, nat_mask1]
  exact IntWalk.i64_in _ (by omega)
theorem run_shr_h {P : Program} (t : TypeId) (x r : Nat) (hr : r ≤ 64) (W : World) : (binOp .shr t (.int .i64 (x : Int)) (.int .i64 (r : Int))).run P W = .ok (.int .i64 ((x / 2 ^ r : Nat) : Int)) W := by
  have h : min r 64 = r := by omega
  simp [binOp, Op.shift, IntKind.bits, h]

set_option maxHeartbeats 3200000 in
theorem implHuffWrite_in (A B : Option Addr) (N n c d : Nat) (X L : List Int) (w : World) (hX : Lies w I A X) (hL : Lies w I B L) (HN : Hid (X.length = N)) (Hn : Hid (L.length = n)) (ok : okH L = true) (hN : N ≤ 17592186044416) :
    Calls Try.prog 30 #[.slice A N c, .slice B n d] w (HwPost X L w) := by
  have HX := Lib.hid hX
  have HL := Lib.hid hL
  have HOk := Lib.hid ok
  have hn := okH_len ok
  rw [Hn.out] at hn
  have CO := Lib.hid fun (W : World) (hW : Below w.heap.size w W) => (implHuffCodes_in B n d L W (HL.out.below hW) Hn HOk.out)
  have OKs := Lib.hid fun (W : World) (hW : Below w.heap.size w W) => by
    have h := implHuffOk_any B d L W (HL.out.below hW)
    rw [HOk.out, Hn.out] at h
    exact h
  have HSp := Lib.hid fun (A : Option Addr) (c : Nat) (B : List Int) (W : World) (h : Lies W I A B) (hl : B.length ≤ 17592186044416) (h1 : B.length ≤ c) (h2 : c ≤ 9223372036854775807) => (implOf_any A c B W h hl h1 h2).mono fun _ _ h => newBits_of h
  have HR0 : Hid (Box (w.alloc (.cells #[.int .i64 0, .slice none 0 0] 44)) w.heap.size 44 #[.int .i64 0, .slice none 0 0]) := Lib.hid (Box.made _ _ _)
  have HB0 : Hid (Below w.heap.size w (w.alloc (.cells #[.int .i64 0, .slice none 0 0] 44))) := Lib.hid ((Below.refl _ _).alloc (Nat.le_refl _) _)
  clear hX hL ok
  go_enter Try.func30, Try.ntmps30
  go_wp2_with fail
  generalize w.alloc (.cells #[.int .i64 0, .slice none 0 0] 44) = w1 at *
  refine (OKs.out w1 HB0.out).mono ?_
  rintro e w1' ⟨rfl, hb1⟩
  have HB1 := Lib.hid (below_then HB0.out hb1)
  have HR1 := Lib.hid (HR0.out.below hb1 HR0.out.lt)
  clear hb1 OKs HB0 HR0
  go_wp2_with fail
  refine (CO.out w1' HB1.out).mono ?_
  rintro e w2 ⟨A1, c1, rfl, ho2, hb2⟩
  have HC2 := Lib.hid (Lies.of_own ho2)
  have HCl : Hid ((hcodes L).length = n) := Lib.hid (by rw [hcodes_len, Hn.out])
  rw [HCl.out]
  have HB2 := Lib.hid (below_then HB1.out hb2)
  have HR2 := Lib.hid (HR1.out.below hb2 HR1.out.lt)
  have HO2 : Hid (w2.ownsRow w2.heap.size 3 1 (.slice none 0 0) ([] : List Int).length (([] : List Int).map I)) := Lib.hid ⟨rfl, .inl ⟨rfl, rfl⟩⟩
  clear ho2 hb2 HR1 HB1 CO
  go_wp2
  go_loopw [7, 19] (fun v i wr => ∃ (k : Nat) (D : List Int), k ≤ N ∧ i = .int .i64 k ∧ D.length ≤ 5000 ∧ Hid (D = hwr L (X.take k)) ∧ Hid (sgood X L k) ∧ Hid (wr.ownsRow w2.heap.size 3 1 v D.length (D.map I)) ∧ Hid (Below w2.heap.size w2 wr)) (fun _ i _ => N - (intOf i).toNat)
  case atStart => exact ⟨0, [], Nat.zero_le _, rfl, by simp, Lib.hid (by simp [hwr]), Lib.hid fun j hj => by omega, HO2, Lib.hid (Below.refl _ _)⟩
  case round =>
    clear HO2
    obtain ⟨k, D, hk, rfl, hD, HD, HG, HO, HB⟩ := hrel
    have HRr := Lib.hid (HR2.out.below HB.out HR2.out.lt)
    have HBw := Lib.hid (below_then HB2.out HB.out)
    obtain ⟨A3, c3, rfl⟩ := own_slice HO.out
    by_cases hlt : k < N
    · obtain ⟨b, o, x, hA, hbl, hx, hc⟩ := (HX.out.below HBw.out).at_ (i := k) (by rw [HN.out]; exact hlt)
      subst hA
      have Hx := Lib.hid hx
      clear hx
      by_cases hin : 0 ≤ x ∧ x < (n : Int)
      · obtain ⟨y, rfl⟩ := Int.eq_ofNat_of_zero_le hin.1
        have hyn : y < n := by omega
        have d1 : decide ((y : Int) < 0) = false := by simp
        have d2 : decide ((n : Int) ≤ (y : Int)) = false := by simp; omega
        have d2n : decide (n ≤ y) = false := by simp; omega
        obtain ⟨b', o', l, hB', hbl', hl, hcl⟩ := (HL.out.below HBw.out).at_ (i := y) (by rw [Hn.out]; exact hyn)
        subst hB'
        have hgl := gl_eq hl
        have hl60 := okH_all HOk.out l (List.mem_of_getElem? hl)
        obtain ⟨m, rfl⟩ : ∃ m : Nat, l = (m : Int) := ⟨l.toNat, by omega⟩
        clear hl
        by_cases hm0 : m = 0
        · have d3 : ((m : Int) == 0) = true := by rw [beq_iff_eq]; omega
          have HNo : Hid (okBits (hwV X L) = false) := Lib.hid (by
            rw [hwV_sym Hx.out (hsym_no fun h => h.2.2 (by rw [Int.toNat_natCast, hgl, hm0]; rfl))]; exact no2)
          have r0 := HRr.out.cell 0
          have r1 := HRr.out.cell 1
          have f0 := HRr.out.frozen 0
          have f1 := HRr.out.frozen 1
          have rl := HRr.out.lt
          clear hgl hm0
          go_wp2
          refine bodyPost_ret (v := .tuple #[.agg #[.int .i64 0, .slice none 0 0], .bool false]) (by simp [results, Try.results30, go_sem, r0, r1]) rfl ?_
          exact hwPost_no HNo.out (by first | exact HBw.out | exact (HBw.out.setCell (Nat.le_refl _) _).setCell (Nat.le_refl _) _)
        · have d3 : ((m : Int) == 0) = false := by rw [beq_eq_false_iff_ne]; omega
          have hsy : hsym L (y : Int) = true := hsym_yes ⟨by omega, by rw [Hn.out]; omega, by rw [Int.toNat_natCast, hgl]; omega⟩
          have hcs := hcode_small HOk.out (i := y) (by rw [Hn.out]; exact hyn) (by rw [hgl]; omega)
          have hT := hwr_take (L := L) Hx.out
          rw [Int.toNat_natCast, hgl, Int.toNat_natCast, ← HD.out] at hT
          have hcod := hcodes_get (L := L) (j := y) (by rw [Hn.out]; exact hyn)
          rw [hgl, if_pos (by omega)] at hcod
          obtain ⟨q, hq⟩ : ∃ q, hcode L y = q := ⟨_, rfl⟩
          rw [hq] at hT hcs hcod
          obtain ⟨b2, o2, hA1, hbl2, hcc⟩ := (HC2.out.below HB.out) y _ hcod
          have HCell : Hid (∀ W, Below w2.heap.size w2 W → W.cell? ⟨b2, o2 + y, none⟩ = some (.int .i64 (q : Int))) := Lib.hid fun W hW => by
            obtain ⟨b3, o3, e3, _, hc3⟩ := (HC2.out.below hW) y _ hcod
            rw [hA1] at e3
            cases e3
            exact hc3
          have hb2w : b2 < w2.heap.size := by
            obtain ⟨b3, o3, e3, h3, _⟩ := HC2.out y _ hcod
            rw [hA1] at e3
            cases e3
            exact h3
          have hq62 : q < 2 ^ 62 := by omega
          subst hA1
          have HT := Lib.hid hT
          have HG2 := Lib.hid (sgood_succ HG.out Hx.out hsy)
          have hml := hbits_len q m
          obtain ⟨t, ht⟩ : ∃ t, D.length + m = t := ⟨_, rfl⟩
          have et : (D.length : Int) + (m : Int) = (t : Int) := by omega
          have wt : IntKind.i64.wrap ((D.length : Int) + (m : Int)) = (t : Int) := by rw [IntKind.wrap_i64]; omega
          have xt : IntKind.i64.wrap (t : Int) = (t : Int) := by rw [IntKind.wrap_i64]; omega
          have hm60 : m ≤ 60 := by omega
          have y0 : (0 : Int) ≤ (y : Int) := by omega
          have y1 : (y : Int) < (n : Int) := by omega
          by_cases hov : 5000 < t
          · have d4 : decide ((5000 : Int) < (t : Int)) = true := by simp; omega
            have HNo : Hid (okBits (hwV X L) = false) := Lib.hid (hwV_over (k := k + 1) (by rw [HT.out, List.length_append, hml]; omega))
            have r0 := HRr.out.cell 0
            have r1 := HRr.out.cell 1
            have f0 := HRr.out.frozen 0
            have f1 := HRr.out.frozen 1
            have rl := HRr.out.lt
            clear hgl hq hT hcod hsy hm0 HD HG hin hcc hml ht
            go_wp2
            refine bodyPost_ret (v := .tuple #[.agg #[.int .i64 0, .slice none 0 0], .bool false]) (by simp [results, Try.results30, go_sem, r0, r1]) rfl ?_
            exact hwPost_no HNo.out (by first | exact HBw.out | exact (HBw.out.setCell (Nat.le_refl _) _).setCell (Nat.le_refl _) _)
          · have d4 : decide ((5000 : Int) < (t : Int)) = false := by simp; omega
            obtain ⟨E, hE⟩ : ∃ E, D ++ hbits q m = E := ⟨_, rfl⟩
            have hEl : E.length = t := by rw [← hE, List.length_append, hml]; exact ht
            rw [hE] at HT
            have HEe := Lib.hid hE
            have HEl := Lib.hid hEl
            obtain ⟨m1, hm1⟩ : ∃ m1, m = m1 + 1 := ⟨m - 1, by omega⟩
            have em : (m : Int) - 1 = (m1 : Int) := by omega
            have wm : IntKind.i64.wrap ((m : Int) - 1) = (m1 : Int) := by rw [IntKind.wrap_i64]; omega
            have HM1 := Lib.hid hm1
            clear hgl hq hT hcod hsy hm0 HD HG hin hml ht hE hEl hcc hm1
            have HO' := HO
            have HB' := HB
            clear HO HB
            go_wp2
            go_loopw [7, 10] (fun v k wr => ∃ (r : Nat) (F : List Int), r ≤ m ∧ k = .int .i64 ((r : Int) - 1) ∧ F.length ≤ 5000 ∧ Hid (F ++ hbits q r = E) ∧ Hid (wr.ownsRow w2.heap.size 3 1 v F.length (F.map I)) ∧ Hid (Below w2.heap.size w2 wr)) (fun _ k _ => (intOf k + 1).toNat)
            case atStart => exact ⟨m, D, Nat.le_refl _, by first | rfl | rw [em] | go_num, hD, HEe, HO', HB'⟩
            case round =>
              clear HO' HB'
              obtain ⟨r, F, hr, rfl, hF, HE, HO, HB⟩ := hrel
              rcases Nat.eq_zero_or_pos r with h0 | h0
              · subst h0
                have HDT : Hid (F = E) := Lib.hid (by have := HE.out; rw [hbits, List.append_nil] at this; exact this)
                have d0 : decide ((0 : Int) ≤ ((0 : Nat) : Int) - 1) = false := by decide
                rw [HDT.out] at HO
                have hE5 : E.length ≤ 5000 := by rw [HEl.out]; omega
                clear HE
                go_wp2
                go_roundw
                case rel => exact ⟨k + 1, E, by omega, by go_num, hE5, Lib.hid HT.out.symm, HG2, HO, HB⟩
                case measure => first | (simp [intOf]; done) | (simp [intOf]; omega)
              · obtain ⟨j, rfl⟩ : ∃ j, r = j + 1 := ⟨r - 1, by omega⟩
                have ek : ((j + 1 : Nat) : Int) - 1 = (j : Int) := by omega
                rw [ek]
                have d0 : decide ((0 : Int) ≤ (j : Int)) = true := by simp
                have hcell := HCell.out _ HB.out
                have hbw : b2 < wr.heap.size := Nat.lt_of_lt_of_le hb2w HB.out.size
                have hsh := fun W => run_shr_h (P := Try.prog) 3 q j (by omega) W
                obtain ⟨E', hE'⟩ : ∃ E', F ++ [bits .and .i64 ((q : Int) / 2 ^ j) 1] = E' := ⟨_, rfl⟩
                have HE2 : Hid (E' ++ hbits q j = E) := Lib.hid (by
                  rw [← hE', ← HE.out, digit_h q j hq62, hbits, hbit]; simp)
                have hl' : E'.length ≤ 5000 := by
                  have h1 := congrArg List.length HE2.out
                  rw [List.length_append, HEl.out] at h1
                  omega
                have HEe' := Lib.hid hE'
                have HS := HB.out.size
                clear hE' HE ek
                go_wp2_with (at_builtin; refine wpList_pushI rfl _ _ rfl w2.heap.size _ _ _ rfl HO.out _ rfl HS (by omega) _ HEe'.out ?_)
                intro A4 c4 w4 ho4 hg4
                have HO4 := Lib.hid ho4
                have HB4 := Lib.hid (HB.out.trans (grown_below HO.out hg4 (Nat.le_refl _) HS))
                clear ho4 hg4 HO HB hcell hsh
                go_wp2
                go_roundw
                case rel => exact ⟨j, E', by omega, by first | rfl | go_num, hl', HE2, HO4, HB4⟩
                case measure => first | (simp [intOf]; done) | (simp [intOf]; omega)
      · have HNo : Hid (okBits (hwV X L) = false) := Lib.hid (by
          rw [hwV_sym Hx.out (hsym_no fun h => hin ⟨h.1, by rw [← Hn.out]; exact h.2.1⟩)]; exact no2)
        have r0 := HRr.out.cell 0
        have r1 := HRr.out.cell 1
        have f0 := HRr.out.frozen 0
        have f1 := HRr.out.frozen 1
        have rl := HRr.out.lt
        by_cases hneg : x < 0
        · have d1 : decide (x < 0) = true := decide_eq_true hneg
          go_wp2
          refine bodyPost_ret (v := .tuple #[.agg #[.int .i64 0, .slice none 0 0], .bool false]) (by simp [results, Try.results30, go_sem, r0, r1]) rfl ?_
          exact hwPost_no HNo.out (by first | exact HBw.out | exact (HBw.out.setCell (Nat.le_refl _) _).setCell (Nat.le_refl _) _)
        · have d1 : decide (x < 0) = false := decide_eq_false hneg
          have d2 : decide ((n : Int) ≤ x) = true := by simp; omega
          go_wp2
          refine bodyPost_ret (v := .tuple #[.agg #[.int .i64 0, .slice none 0 0], .bool false]) (by simp [results, Try.results30, go_sem, r0, r1]) rfl ?_
          exact hwPost_no HNo.out (by first | exact HBw.out | exact (HBw.out.setCell (Nat.le_refl _) _).setCell (Nat.le_refl _) _)
    · obtain rfl : k = N := by omega
      have HV : Hid (hwV X L = D) := Lib.hid (by
        rw [HD.out, ← HN.out, List.take_length]
        exact hwV_ok HOk.out (sgood_all (by rw [HN.out]; exact HG.out)))
      have hcap := (row_cap HO.out).1
      have hcap2 := (row_cap HO.out).2
      have HSp1 := Lib.hid (HSp.out A3 c3 D wr (Lies.of_own HO.out) (by omega) hcap hcap2)
      have HS2 : Hid (w.heap.size ≤ wr.heap.size) := Lib.hid HBw.out.size
      clear hcap hcap2 HSp HD HG
      go_wp2_with fail
      refine HSp1.out.mono ?_
      rintro e w9 ⟨A9, c9, rfl, ho9, hb9⟩
      have HRr9 := Lib.hid (HRr.out.below hb9 HRr.out.lt)
      have HB9 := Lib.hid (below_then HBw.out hb9)
      have HO9 := Lib.hid ho9
      have HP9 : Hid (w.heap.size < wr.heap.size) := Lib.hid HRr.out.lt
      have r0 := HRr9.out.cell 0
      have r1 := HRr9.out.cell 1
      have f0 := HRr9.out.frozen 0
      have f1 := HRr9.out.frozen 1
      have rl := HRr9.out.lt
      clear ho9 hb9 HSp1 HRr
      go_wp2
      refine bodyPost_ret (v := .tuple #[.agg #[.int .i64 (resN D), .slice A9 (resW D).length c9], .bool (okBits D)]) (by simp [results, Try.results30, go_sem, r0, r1]) rfl ?_
      unfold HwPost
      rw [HV.out]
      refine ⟨A9, c9, rfl, own_mono (ownsRow_setCell_below (ownsRow_setCell_below HO9.out (by exact HP9.out) _) (by exact HP9.out) _) HS2.out, (HB9.out.setCell (Nat.le_refl _) _).setCell (Nat.le_refl _) _⟩

theorem implHuffWrite_any (A B : Option Addr) (c d : Nat) (X L : List Int) (w : World) (hX : Lies w I A X) (hL : Lies w I B L) (hN : X.length ≤ 17592186044416) :
    Calls Try.prog 30 #[.slice A X.length c, .slice B L.length d] w (HwPost X L w) := by
  cases ok : okH L with
  | true => exact implHuffWrite_in A B X.length L.length c d X L w hX hL (Lib.hid rfl) (Lib.hid rfl) ok hN
  | false =>
    have HNo : Hid (okBits (hwV X L) = false) := Lib.hid (by rw [hwV_bad ok]; exact no2)
    have HR0 : Hid (Box (w.alloc (.cells #[.int .i64 0, .slice none 0 0] 44)) w.heap.size 44 #[.int .i64 0, .slice none 0 0]) := Lib.hid (Box.made _ _ _)
    have HB0 : Hid (Below w.heap.size w (w.alloc (.cells #[.int .i64 0, .slice none 0 0] 44))) := Lib.hid ((Below.refl _ _).alloc (Nat.le_refl _) _)
    have hok := implHuffOk_any B d L _ (hL.below HB0.out)
    rw [ok] at hok
    have OK := Lib.hid hok
    generalize L.length = n at *
    clear hN
    generalize X.length = N at *
    clear hL hX ok hok
    go_enter Try.func30, Try.ntmps30
    go_wp2_with fail
    generalize w.alloc (.cells #[.int .i64 0, .slice none 0 0] 44) = w1 at *
    refine OK.out.mono ?_
    rintro e w2 ⟨rfl, hb⟩
    have HB := Lib.hid (below_then HB0.out hb)
    have HRr := Lib.hid (HR0.out.below hb HR0.out.lt)
    have r0 := HRr.out.cell 0
    have r1 := HRr.out.cell 1
    have f0 := HRr.out.frozen 0
    have f1 := HRr.out.frozen 1
    have rl := HRr.out.lt
    clear hb OK HB0 HR0
    go_wp2
    refine bodyPost_ret (v := .tuple #[.agg #[.int .i64 0, .slice none 0 0], .bool false]) (by simp [results, Try.results30, go_sem, r0, r1]) rfl ?_
    exact hwPost_no HNo.out (by first | exact HB.out | exact (HB.out.setCell (Nat.le_refl _) _).setCell (Nat.le_refl _) _)

end Go.Proofs.Ytoehgcakfblblaa
