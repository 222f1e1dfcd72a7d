/- HuffWrite of the specification. -/
import Derived.Test.YtoehgcakfblblaaHw1
namespace Go.Proofs.Ytoehgcakfblblaa
open Go.RowKit
set_option maxRecDepth 100000

theorem hsym_no {L : List Int} {x : Int} (h : ¬ (0 ≤ x ∧ x < (L.length : Int) ∧ gl L x.toNat ≠ 0)) : hsym L x = false := decide_eq_false h
theorem hsym_yes {L : List Int} {x : Int} (h : 0 ≤ x ∧ x < (L.length : Int) ∧ gl L x.toNat ≠ 0) : hsym L x = true := decide_eq_true h
/-- The first k are symbols. -/
def sgood (X L : List Int) (k : Nat) : Prop := ∀ j < k, ∀ x, X[j]? = some x → hsym L x = true
theorem sgood_succ {X L : List Int} {k : Nat} {x : Int} (h : sgood X L k) (hx : X[k]? = some x) (h0 : hsym L x = true) : sgood X L (k + 1) := fun j hj y hy => by
  by_cases e : j = k
  · subst e
    rw [hx] at hy
    cases hy
    exact h0
  · exact h j (by omega) y hy
theorem sgood_all {X L : List Int} (h : sgood X L X.length) : ∀ x ∈ X, hsym L x = true := by
  intro x hx
  obtain ⟨j, hj⟩ := List.mem_iff_getElem?.1 hx
  exact h j (List.getElem?_eq_some_iff.mp hj).1 x hj
theorem hwr_short {X L : List Int} (ok : okH L = true) : ∀ k, sgood X L k → k ≤ X.length → (hwr L (X.take k)).length ≤ 60 * k
  | 0, _, _ => by simp [hwr]
  | k + 1, h, hk => by
    have ih := hwr_short ok k (fun j hj => h j (by omega)) (by omega)
    have hx : X[k]? = some X[k] := List.getElem?_eq_getElem _
    have h2 := hsym_len ok (h k (by omega) _ hx)
    rw [hwr_take hx, List.length_append, hbits_len]
    omega

set_option maxHeartbeats 3200000 in
theorem specHuffWrite_in (A B : Option Addr) (N n c d : Nat) (X L : List Int) (w : World) (hX : Lies w I A X) (hL : Lies w I B L) (HN : Hid (X.length = N)) (Hn : Hid (L.length = n)) (ok : okH L = true) (hN : N ≤ 5000) :
    Calls Try.prog 29 #[.slice A N c, .slice B n d] w (HwPost X L w) := by
  have HX := Lib.hid hX
  have HL := Lib.hid hL
  have HOk := Lib.hid ok
  have hn := okH_len ok
  rw [Hn.out] at hn
  have CO := Lib.hid fun (W : World) (hW : Below w.heap.size w W) => (specHuffCodes_in B n d L W (HL.out.below hW) Hn HOk.out)
  have OKs := Lib.hid fun (W : World) (hW : Below w.heap.size w W) => by
    have h := specHuffOk_any B d L W (HL.out.below hW)
    rw [HOk.out, Hn.out] at h
    exact h
  have HSp := Lib.hid fun (A : Option Addr) (c : Nat) (B : List Int) (W : World) (h : Lies W I A B) (hl : B.length ≤ 17592186044416) => (specOf_any A c B W h hl).mono fun _ _ h => newBits_of h
  have HR0 : Hid (Box (w.alloc (.cells #[.int .i64 0, .slice none 0 0] 44)) w.heap.size 44 #[.int .i64 0, .slice none 0 0]) := Lib.hid (Box.made _ _ _)
  have HB0 : Hid (Below w.heap.size w (w.alloc (.cells #[.int .i64 0, .slice none 0 0] 44))) := Lib.hid ((Below.refl _ _).alloc (Nat.le_refl _) _)
  have dN : decide ((5000 : Int) < (N : Int)) = false := by simp; omega
  clear hX hL ok
  go_enter Try.func29, Try.ntmps29
  go_wp2_with fail
  generalize w.alloc (.cells #[.int .i64 0, .slice none 0 0] 44) = w1 at *
  refine (CO.out w1 HB0.out).mono ?_
  rintro e w2 ⟨A1, c1, rfl, ho2, hb2⟩
  have HC2 := Lib.hid (Lies.of_own ho2)
  have HCl : Hid ((hcodes L).length = n) := Lib.hid (by rw [hcodes_len, Hn.out])
  rw [HCl.out]
  have HB2 := Lib.hid (below_then HB0.out hb2)
  have HR2 := Lib.hid (HR0.out.below hb2 HR0.out.lt)
  clear ho2 hb2 HR0 HB0 CO
  go_wp2_with fail
  refine (OKs.out w2 HB2.out).mono ?_
  rintro e w3 ⟨rfl, rfl⟩
  clear OKs dN
  have HO3 : Hid ((w2.alloc (.cells #[] 3)).ownsRow w2.heap.size 3 1 (.slice (some ⟨w2.heap.size, 0, none⟩) ([] : List Int).length 0) ([] : List Int).length (([] : List Int).map I)) := Lib.hid (World.ownsRow_made w2 (e := 3) (size := 1) #[] 0 (Nat.le_refl _) (by unfold maxLen; omega) rfl)
  have HB3 : Hid (Below w2.heap.size w2 (w2.alloc (.cells #[] 3))) := Lib.hid ((Below.refl _ _).alloc (Nat.le_refl _) _)
  go_wp2_with fail
  generalize w2.alloc (.cells #[] 3) = w3 at *
  go_loopw [7, 8] (fun v i wr => ∃ (k : Nat) (D : List Int), k ≤ N ∧ i = .int .i64 k ∧ D.length ≤ 60 * k ∧ Hid (D = hwr L (X.take k)) ∧ Hid (sgood X L k) ∧ Hid (wr.ownsRow w2.heap.size 3 1 v D.length (D.map I)) ∧ Hid (Below w2.heap.size w2 wr)) (fun _ i _ => N - (intOf i).toNat)
  case atStart => exact ⟨0, [], Nat.zero_le _, rfl, by simp, Lib.hid (by simp [hwr]), Lib.hid fun j hj => by omega, HO3, HB3⟩
  case round =>
    clear HO3 HB3
    obtain ⟨k, D, hk, rfl, hD, HD, HG, HO, HB⟩ := hrel
    have HRr := Lib.hid (HR2.out.below HB.out HR2.out.lt)
    have HBw := Lib.hid (below_then HB2.out HB.out)
    obtain ⟨A3, c3, rfl⟩ := own_slice HO.out
    by_cases hlt : k < N
    · obtain ⟨b, o, x, hA, hbl, hx, hc⟩ := (HX.out.below HBw.out).at_ (i := k) (by rw [HN.out]; exact hlt)
      subst hA
      have Hx := Lib.hid hx
      clear hx
      by_cases hin : 0 ≤ x ∧ x < (n : Int)
      · obtain ⟨y, rfl⟩ := Int.eq_ofNat_of_zero_le hin.1
        have hyn : y < n := by omega
        have d1 : decide ((y : Int) < 0) = false := by simp
        have d2 : decide ((n : Int) ≤ (y : Int)) = false := by simp; omega
        obtain ⟨b', o', l, hB', hbl', hl, hcl⟩ := (HL.out.below HBw.out).at_ (i := y) (by rw [Hn.out]; exact hyn)
        subst hB'
        have hgl := gl_eq hl
        have hl60 := okH_all HOk.out l (List.mem_of_getElem? hl)
        obtain ⟨m, rfl⟩ : ∃ m : Nat, l = (m : Int) := ⟨l.toNat, by omega⟩
        clear hl
        by_cases hm0 : m = 0
        · have d3 : ((m : Int) == 0) = true := by rw [beq_iff_eq]; omega
          have HNo : Hid (okBits (hwV X L) = false) := Lib.hid (by
            rw [hwV_sym Hx.out (hsym_no fun h => h.2.2 (by rw [Int.toNat_natCast, hgl, hm0]; rfl))]; exact no2)
          have r0 := HRr.out.cell 0
          have r1 := HRr.out.cell 1
          have f0 := HRr.out.frozen 0
          have f1 := HRr.out.frozen 1
          have rl := HRr.out.lt
          clear hgl hm0
          go_wp2
          refine bodyPost_ret (v := .tuple #[.agg #[.int .i64 0, .slice none 0 0], .bool false]) (by simp [results, Try.results29, go_sem, r0, r1]) rfl ?_
          exact hwPost_no HNo.out (by first | exact HBw.out | exact (HBw.out.setCell (Nat.le_refl _) _).setCell (Nat.le_refl _) _)
        · have d3 : ((m : Int) == 0) = false := by rw [beq_eq_false_iff_ne]; omega
          have hsy : hsym L (y : Int) = true := hsym_yes ⟨by omega, by rw [Hn.out]; omega, by rw [Int.toNat_natCast, hgl]; omega⟩
          have hcs := hcode_small HOk.out (i := y) (by rw [Hn.out]; exact hyn) (by rw [hgl]; omega)
          have hT := hwr_take (L := L) Hx.out
          rw [Int.toNat_natCast, hgl, Int.toNat_natCast, ← HD.out] at hT
          have hcod := hcodes_get (L := L) (j := y) (by rw [Hn.out]; exact hyn)
          rw [hgl, if_pos (by omega)] at hcod
          obtain ⟨q, hq⟩ : ∃ q, hcode L y = q := ⟨_, rfl⟩
          rw [hq] at hT hcs hcod
          obtain ⟨b2, o2, hA1, hbl2, hcc⟩ := (HC2.out.below HB.out) y _ hcod
          subst hA1
          have HT := Lib.hid hT.symm
          have HG2 := Lib.hid (sgood_succ HG.out Hx.out hsy)
          have HCd := Lib.hid fun (W : World) => specCode8_any q m W hcs (by omega)
          obtain ⟨M, hM⟩ : ∃ M, hbits q m = M := ⟨_, rfl⟩
          have hMl : M.length = m := by rw [← hM, hbits_len]
          rw [hM] at HT HCd
          obtain ⟨E, hE⟩ : ∃ E, D ++ M = E := ⟨_, rfl⟩
          have hEl : E.length ≤ 60 * (k + 1) := by rw [← hE, List.length_append]; omega
          rw [hE] at HT
          have HEe := Lib.hid hE
          have hm60 : m ≤ 60 := by omega
          have HS := HB.out.size
          have y0 : (0 : Int) ≤ (y : Int) := by omega
          have y1 : (y : Int) < (n : Int) := by omega
          have HMl : Hid (D.length + M.length ≤ 1000000) := Lib.hid (by omega)
          clear hgl hq hT hcod hM hE hsy hm0 HD HG hin hMl
          go_wp2_with fail
          go_region_law (first | (go_simp; go_at_call 74; (with_reducible refine Calls.mono (HCd.out _) ?_); rintro e w5 ⟨A5, c5, rfl, ho5, hb5⟩) | (refine step_append_ints _ rfl (.tmp 48) (.tmp 57) rfl w2.heap.size (.slice A3 D.length c3) D rfl ?_ A5 c5 M rfl ?_ ?_ E HEe.out ?_ ?_ ?_; (exact own_below (w := wr.drew) (show wr.drew.ownsRow w2.heap.size 3 1 (.slice A3 D.length c3) D.length (D.map I) from HO.out) hb5 (Nat.le_refl _)); (exact Lies.of_own ho5); (exact own_tidy ho5); (exact Nat.le_trans HMl.out (by omega)); (exact Nat.le_trans HS hb5.size); intro A7 c7 w7 ho7 hg7))
          all_goals
            have HO7 := Lib.hid ho7
            have hs25 : w2.heap.size ≤ w5.heap.size := Nat.le_trans HS hb5.size
            have HB7 := Lib.hid ((below_then HB.out.drew hb5).trans (grown_below (own_below (w := wr.drew) (show wr.drew.ownsRow w2.heap.size 3 1 (.slice A3 D.length c3) D.length (D.map I) from HO.out) hb5 (Nat.le_refl _)) hg7 (Nat.le_refl _) hs25))
            clear ho7 hg7 hb5 ho5 HO HB hcl hcc hbl hbl' hbl2
            go_wp2
            go_roundw
            case rel => exact ⟨k + 1, E, by omega, by go_num, hEl, HT, HG2, HO7, HB7⟩
            case measure => first | (simp [intOf]; done) | (simp [intOf]; omega)
      · have HNo : Hid (okBits (hwV X L) = false) := Lib.hid (by
          rw [hwV_sym Hx.out (hsym_no fun h => hin ⟨h.1, by rw [← Hn.out]; exact h.2.1⟩)]; exact no2)
        have r0 := HRr.out.cell 0
        have r1 := HRr.out.cell 1
        have f0 := HRr.out.frozen 0
        have f1 := HRr.out.frozen 1
        have rl := HRr.out.lt
        by_cases hneg : x < 0
        · have d1 : decide (x < 0) = true := decide_eq_true hneg
          go_wp2
          refine bodyPost_ret (v := .tuple #[.agg #[.int .i64 0, .slice none 0 0], .bool false]) (by simp [results, Try.results29, go_sem, r0, r1]) rfl ?_
          exact hwPost_no HNo.out (by first | exact HBw.out | exact (HBw.out.setCell (Nat.le_refl _) _).setCell (Nat.le_refl _) _)
        · have d1 : decide (x < 0) = false := decide_eq_false hneg
          have d2 : decide ((n : Int) ≤ x) = true := by simp; omega
          go_wp2
          refine bodyPost_ret (v := .tuple #[.agg #[.int .i64 0, .slice none 0 0], .bool false]) (by simp [results, Try.results29, go_sem, r0, r1]) rfl ?_
          exact hwPost_no HNo.out (by first | exact HBw.out | exact (HBw.out.setCell (Nat.le_refl _) _).setCell (Nat.le_refl _) _)
    · obtain rfl : k = N := by omega
      have hDl : D.length ≤ 17592186044416 := by omega
      have HV : Hid (hwV X L = D) := Lib.hid (by
        rw [HD.out, ← HN.out, List.take_length]
        exact hwV_ok HOk.out (sgood_all (by rw [HN.out]; exact HG.out)))
      have HSp1 := Lib.hid (HSp.out A3 c3 D wr (Lies.of_own HO.out) (by omega))
      have HS2 : Hid (w.heap.size ≤ wr.heap.size) := Lib.hid HBw.out.size
      clear HSp HD HG
      go_wp2_with fail
      refine HSp1.out.mono ?_
      rintro e w9 ⟨A9, c9, rfl, ho9, hb9⟩
      have HRr9 := Lib.hid (HRr.out.below hb9 HRr.out.lt)
      have HB9 := Lib.hid (below_then HBw.out hb9)
      have HO9 := Lib.hid ho9
      have HP9 : Hid (w.heap.size < wr.heap.size) := Lib.hid HRr.out.lt
      have r0 := HRr9.out.cell 0
      have r1 := HRr9.out.cell 1
      have f0 := HRr9.out.frozen 0
      have f1 := HRr9.out.frozen 1
      have rl := HRr9.out.lt
      clear ho9 hb9 HSp1 HRr
      go_wp2
      refine bodyPost_ret (v := .tuple #[.agg #[.int .i64 (resN D), .slice A9 (resW D).length c9], .bool (okBits D)]) (by simp [results, Try.results29, go_sem, r0, r1]) rfl ?_
      unfold HwPost
      rw [HV.out]
      refine ⟨A9, c9, rfl, own_mono (ownsRow_setCell_below (ownsRow_setCell_below HO9.out (by exact HP9.out) _) (by exact HP9.out) _) HS2.out, (HB9.out.setCell (Nat.le_refl _) _).setCell (Nat.le_refl _) _⟩

theorem specHuffWrite_any (A B : Option Addr) (c d : Nat) (X L : List Int) (w : World) (hX : Lies w I A X) (hL : Lies w I B L) :
    Calls Try.prog 29 #[.slice A X.length c, .slice B L.length d] w (HwPost X L w) := by
  have HR0 : Hid (Box (w.alloc (.cells #[.int .i64 0, .slice none 0 0] 44)) w.heap.size 44 #[.int .i64 0, .slice none 0 0]) := Lib.hid (Box.made _ _ _)
  have HB0 : Hid (Below w.heap.size w (w.alloc (.cells #[.int .i64 0, .slice none 0 0] 44))) := Lib.hid ((Below.refl _ _).alloc (Nat.le_refl _) _)
  have CO := Lib.hid (specHuffCodes_any B d L _ (hL.below HB0.out))
  have OKs := Lib.hid fun (W : World) (hW : Below w.heap.size w W) => specHuffOk_any B d L W (hL.below hW)
  cases ok : okH L with
  | true =>
    by_cases hN : X.length ≤ 5000
    · exact specHuffWrite_in A B X.length L.length c d X L w hX hL (Lib.hid rfl) (Lib.hid rfl) ok hN
    · have HNo : Hid (okBits (hwV X L) = false) := Lib.hid (hwV_many ok (by omega))
      have dN : decide ((5000 : Int) < (X.length : Int)) = true := by simp; omega
      rw [ok] at OKs
      generalize L.length = n at *
      generalize X.length = N at *
      clear hL hX ok
      go_enter Try.func29, Try.ntmps29
      go_wp2_with fail
      generalize w.alloc (.cells #[.int .i64 0, .slice none 0 0] 44) = w1 at *
      refine CO.out.mono ?_
      rintro e w2 ⟨A1, c1, rfl, ho, hb⟩
      have HB := Lib.hid (below_then HB0.out hb)
      have HRr := Lib.hid (HR0.out.below hb HR0.out.lt)
      clear hb ho CO HB0 HR0
      go_wp2_with fail
      refine (OKs.out w2 HB.out).mono ?_
      rintro e w3 ⟨rfl, rfl⟩
      have r0 := HRr.out.cell 0
      have r1 := HRr.out.cell 1
      have f0 := HRr.out.frozen 0
      have f1 := HRr.out.frozen 1
      have rl := HRr.out.lt
      clear OKs
      go_wp2
      refine bodyPost_ret (v := .tuple #[.agg #[.int .i64 0, .slice none 0 0], .bool false]) (by simp [results, Try.results29, go_sem, r0, r1]) rfl ?_
      exact hwPost_no HNo.out (by first | exact HB.out | exact (HB.out.setCell (Nat.le_refl _) _).setCell (Nat.le_refl _) _)
  | false =>
    have HNo : Hid (okBits (hwV X L) = false) := Lib.hid (by rw [hwV_bad ok]; exact no2)
    rw [ok] at OKs
    generalize L.length = n at *
    generalize X.length = N at *
    clear hL hX ok
    go_enter Try.func29, Try.ntmps29
    go_wp2_with fail
    generalize w.alloc (.cells #[.int .i64 0, .slice none 0 0] 44) = w1 at *
    refine CO.out.mono ?_
    rintro e w2 ⟨A1, c1, rfl, ho, hb⟩
    have HB := Lib.hid (below_then HB0.out hb)
    have HRr := Lib.hid (HR0.out.below hb HR0.out.lt)
    clear hb ho CO HB0 HR0
    go_wp2_with fail
    refine (OKs.out w2 HB.out).mono ?_
    rintro e w3 ⟨rfl, rfl⟩
    have r0 := HRr.out.cell 0
    have r1 := HRr.out.cell 1
    have f0 := HRr.out.frozen 0
    have f1 := HRr.out.frozen 1
    have rl := HRr.out.lt
    clear OKs
    go_wp2
    refine bodyPost_ret (v := .tuple #[.agg #[.int .i64 0, .slice none 0 0], .bool false]) (by simp [results, Try.results29, go_sem, r0, r1]) rfl ?_
    exact hwPost_no HNo.out (by first | exact HB.out | exact (HB.out.setCell (Nat.le_refl _) _).setCell (Nat.le_refl _) _)

end Go.Proofs.Ytoehgcakfblblaa
