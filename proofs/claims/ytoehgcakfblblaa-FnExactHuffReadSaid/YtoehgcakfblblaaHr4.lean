import Derived.Test.YtoehgcakfblblaaHr2
import Derived.Test.YtoehgcakfblblaaList2
import Derived.Test.YtoehgcakfblblaaImpl2
import Derived.Test.YtoehgcakfblblaaHf1
/- HuffRead of the program. -/
namespace Go.Proofs.Ytoehgcakfblblaa
open Go.RowKit Go.Maps
set_option maxRecDepth 100000

/-- After k digits the symbols D are read and the digits P are pending. -/
def HrQ (L B : List Int) (k : Nat) (D P : List Int) : Prop :=
  P.length ≤ k ∧ k ≤ B.length ∧ HrI L B (k - P.length) D ∧ (B.drop (k - P.length)).take P.length = P ∧ ∀ x, hsym L x = true → ¬ hc L x <+: P
theorem HrQ.zero {L B : List Int} (ok : okH L = true) : HrQ L B 0 [] [] := ⟨Nat.le_refl _, Nat.zero_le _, HrI.zero _ _, rfl, fun x hx h => by
  have h1 := h.length_le
  have h2 := hc_pos ok hx
  simp only [List.length_nil] at h1
  omega⟩
theorem HrQ.more {L B : List Int} {k : Nat} {D P : List Int} {y : Int} (h : HrQ L B k D P) (hy : B[k]? = some y) : (B.drop (k - P.length)).take (P.length + 1) = P ++ [y] := by
  obtain ⟨h1, h2⟩ := List.getElem?_eq_some_iff.mp hy
  have h0 := h.1
  have e : P.length < (B.drop (k - P.length)).length := by rw [List.length_drop]; omega
  rw [List.take_succ_eq_append_getElem e, h.2.2.2.1, List.getElem_drop]
  congr 2
  rw [← h2]
  congr 1
  omega
theorem HrQ.miss {L B : List Int} {k : Nat} {D P : List Int} {y : Int} (h : HrQ L B k D P) (hy : B[k]? = some y) (hno : ∀ x, hsym L x = true → hc L x ≠ P ++ [y]) : HrQ L B (k + 1) D (P ++ [y]) := by
  have h1 := h.more hy
  have h2 := (List.getElem?_eq_some_iff.mp hy).1
  have h0 := h.1
  have e : k + 1 - (P ++ [y]).length = k - P.length := by rw [List.length_append]; simp
  unfold HrQ
  rw [e]
  refine ⟨by simp; omega, h2, h.2.2.1, by simpa using h1, fun x hx hp => ?_⟩
  rcases List.prefix_concat_iff.mp hp with hp | hp
  · exact hno x hx hp
  · exact h.2.2.2.2 x hx hp
theorem HrQ.hit {L B : List Int} {k : Nat} {D P : List Int} {y x : Int} (ok : okH L = true) (h : HrQ L B k D P) (hy : B[k]? = some y) (hx : hsym L x = true) (he : hc L x = P ++ [y]) : HrQ L B (k + 1) (D ++ [x]) [] := by
  have h1 := h.more hy
  have h2 := (List.getElem?_eq_some_iff.mp hy).1
  have h0 := h.1
  have h3 : HrI L B (k - P.length + (gl L x.toNat).toNat) (D ++ [x]) := h.2.2.1.step hx (by rw [he, ← h1]; exact List.take_prefix _ _)
  have h4 : (gl L x.toNat).toNat = P.length + 1 := by rw [← hc_len, he]; simp
  rw [h4, show k - P.length + (P.length + 1) = k + 1 by omega] at h3
  exact ⟨Nat.zero_le _, h2, h3, by simp, (HrQ.zero (B := B) ok).2.2.2.2⟩
theorem HrQ.left {g : Bool} {L B : List Int} {D P : List Int} {n : Int} (h : HrQ L B B.length D P) (hP : 0 < P.length) (D2 : List Int) : ¬ HrD g L B n D2 := by
  have h0 := h.1
  refine h.2.2.1.stop (by omega) (fun x hx hp => h.2.2.2.2 x hx ?_) D2
  have e : (B.drop (B.length - P.length)).take P.length = B.drop (B.length - P.length) := List.take_of_length_le (by rw [List.length_drop]; omega)
  rwa [← e, h.2.2.2.1] at hp
theorem HrQ.done {L B : List Int} {D P : List Int} (h : HrQ L B B.length D P) (hP : P.length = 0) : HrI L B B.length D := by
  have := h.2.2.1
  rwa [hP, Nat.sub_zero] at this
/-- Which symbol's code the digits P are. -/
theorem hasC_iff {L P : List Int} (ok : okH L = true) (hb : IsBits P) {a : Int} (ha : P.length ≤ 60 → a = (dvN P 0 : Int)) {s : Nat} (hs : s < L.length) : HasC L s a (P.length : Int) ↔ hsym L (s : Int) = true ∧ hc L (s : Int) = P := by
  have h60 := (okH_all ok _ (gl_mem hs)).2
  constructor
  · rintro ⟨h1, h2, h3⟩
    have hl : (gl L s).toNat = P.length := by omega
    have ha := ha (by omega)
    refine ⟨decide_eq_true ⟨by omega, by omega, by rw [Int.toNat_natCast]; omega⟩, ?_⟩
    have h4 : hcode L s = dvN P 0 := by omega
    unfold hc
    rw [Int.toNat_natCast, hl, h4]
    exact hbits_dvN hb 0
  · rintro ⟨h1, h2⟩
    have h3 := hsym_len ok h1
    rw [Int.toNat_natCast] at h3
    have h4 := hc_dv ok h1 0
    have h5 := hc_len L (s : Int)
    rw [h2] at h4 h5
    rw [Int.toNat_natCast] at h4 h5
    have ha := ha (by omega)
    refine ⟨h3.2.2.2.2, ?_, by omega⟩
    rw [ha, h4]
    simp
theorem own_keep {w w' : World} {B base : Nat} {e : TypeId} {n : Nat} {A : Option Addr} {c : Nat} {xs : List Value} (h : w.ownsRow base e 1 (.slice A n c) n xs) (hlt : ∀ b o s, A = some ⟨b, o, s⟩ → b < B) (hb : Below B w w') : w'.ownsRow base e 1 (.slice A n c) n xs := by
  refine ⟨h.1, ?_⟩
  rcases h.2 with h2 | ⟨g, cap, cur, hv, h3, h4, h5⟩
  · exact .inl h2
  · refine .inr ⟨g, cap, cur, hv, h3, ?_, h5⟩
    injection hv with e1
    rw [hb.block g (hlt _ _ _ e1)]
    exact h4
theorem HMap.keep {w w' : World} {b j B : Nat} {L : List Int} (h : HMap w b j L) (hb : Below B w w') (hlt : b < B) : HMap w' b j L := by
  obtain ⟨D, ⟨es, ck, e1, e2⟩, h2⟩ := h
  exact ⟨D, ⟨es, ck, (hb.block b hlt).trans e1, e2⟩, h2⟩
theorem HMap.set {w : World} {b j g i : Nat} {L : List Int} (h : HMap w b j L) (hne : b ≠ g) (u : Value) : HMap (w.setCell ⟨g, i, none⟩ u) b j L := by
  obtain ⟨D, ⟨es, ck, e1, e2⟩, h2⟩ := h
  exact ⟨D, ⟨es, ck, (Below.heap_setCell w ⟨g, i, none⟩ u b hne).trans e1, e2⟩, h2⟩

end Go.Proofs.Ytoehgcakfblblaa

/- HuffRead of the program: the walk. -/
namespace Go.Proofs.Ytoehgcakfblblaa
open Go.RowKit Go.Maps
set_option maxRecDepth 100000

set_option maxHeartbeats 1600000 in
theorem implHuffRead_bad (N : Int) (A B : Option Addr) (n c d : Nat) (z : Int) (W : List Nat) (L : List Int) (w : World) (hW : Lies w U A W) (hL : Lies w I B L) (h64 : ∀ x ∈ W, x < 2 ^ 64) (Hn : Hid (L.length = n)) (h : okB N W = false ∨ okH L = false ∨ z < 0) :
    Calls Try.prog 31 #[.agg #[.int .i64 N, .slice A W.length c], .slice B n d, .int .i64 z] w (HrPost (okB N W) L (bitsOf N.toNat W) z w) := by
  have HNo : Hid (∀ D, ¬ HrD (okB N W) L (bitsOf N.toNat W) z D) := Lib.hid (by
    rcases h with h | h | h
    · rw [h]; exact hrD_g
    · exact hrD_ok h
    · exact hrD_neg h)
  have HR0 : Hid (Box (w.alloc (.cells #[.int .i64 N, .slice A W.length c] 44)) w.heap.size 44 #[.int .i64 N, .slice A W.length c]) := Lib.hid (Box.made _ _ _)
  have HB0 : Hid (Below w.heap.size w (w.alloc (.cells #[.int .i64 N, .slice A W.length c] 44))) := Lib.hid ((Below.refl _ _).alloc (Nat.le_refl _) _)
  have BO := Lib.hid fun (w2 : World) (hw2 : Below w.heap.size w w2) => implOk_any N A c W w2 (hW.below hw2) h64
  have OKs := Lib.hid fun (W : World) (hW : Below w.heap.size w W) => by
    have h := implHuffOk_any B d L W (hL.below hW)
    rw [Hn.out] at h
    exact h
  clear hW hL h64
  go_enter Try.func31, Try.ntmps31
  go_wp2_with fail
  generalize w.alloc (.cells #[.int .i64 N, .slice A W.length c] 44) = w1 at *
  refine (OKs.out w1 HB0.out).mono ?_
  rintro e w2 ⟨rfl, hb⟩
  have HB2 := Lib.hid (below_then HB0.out hb)
  have HR2 := Lib.hid (HR0.out.below hb HR0.out.lt)
  clear hb HR0 OKs HB0
  by_cases h2 : okH L = true
  · rw [h2]
    have r0 := HR2.out.cell 0
    have r1 := HR2.out.cell 1
    simp only [List.getElem?_toArray, List.getElem?_cons_zero, List.getElem?_cons_succ] at r0 r1
    go_wp2_with fail
    refine (BO.out w2 HB2.out).mono ?_
    rintro e w3 ⟨rfl, hb⟩
    have HB3 := Lib.hid (below_then HB2.out hb)
    clear hb r0 r1 HR2 BO
    by_cases h1 : okB N W = true
    · rw [h1]
      have hz : z < 0 := by
        rcases h with h | h | h
        · rw [h] at h1; cases h1
        · rw [h] at h2; cases h2
        · exact h
      have d3 : decide (z < 0) = true := decide_eq_true hz
      clear h h1 h2
      go_wp2
      go_ret2
      exact hrPost_no HNo.out HB3.out
    · rw [show okB N W = false by simpa using h1]
      clear h h1 h2
      go_wp2
      go_ret2
      exact hrPost_no HNo.out HB3.out
  · rw [show okH L = false by simpa using h2]
    clear h h2
    go_wp2
    go_ret2
    exact hrPost_no HNo.out HB2.out

set_option maxHeartbeats 6400000 in
theorem implHuffRead_in (A B : Option Addr) (N n c d : Nat) (z : Int) (W : List Nat) (L : List Int) (w : World) (hW : Lies w U A W) (hL : Lies w I B L) (h64 : ∀ x ∈ W, x < 2 ^ 64) (ok : okB (N : Int) W = true) (hN : N ≤ 5000) (Hn : Hid (L.length = n)) (okh : okH L = true) (hz : 0 ≤ z) :
    Calls Try.prog 31 #[.agg #[.int .i64 N, .slice A W.length c], .slice B n d, .int .i64 z] w (HrPost true L (bitsOf N W) z w) := by
  have HW := Lib.hid hW
  have HL := Lib.hid hL
  have H64 := Lib.hid h64
  have HOk := Lib.hid okh
  have hn := okH_len okh
  rw [Hn.out] at hn
  have HR0 : Hid (Box (w.alloc (.cells #[.int .i64 N, .slice A W.length c] 44)) w.heap.size 44 #[.int .i64 N, .slice A W.length c]) := Lib.hid (Box.made _ _ _)
  have HB0 : Hid (Below w.heap.size w (w.alloc (.cells #[.int .i64 N, .slice A W.length c] 44))) := Lib.hid ((Below.refl _ _).alloc (Nat.le_refl _) _)
  have BO := Lib.hid fun (w2 : World) (hw2 : Below w.heap.size w w2) => by
    have h := implOk_any N A c W w2 (HW.out.below hw2) H64.out
    rw [ok] at h
    exact h
  have OKs := Lib.hid fun (W : World) (hW : Below w.heap.size w W) => by
    have h := implHuffOk_any B d L W (HL.out.below hW)
    rw [HOk.out, Hn.out] at h
    exact h
  have LO := Lib.hid fun (w2 : World) (hw2 : Below w.heap.size w w2) => by
    have h := implList_any N A c W w2 (HW.out.below hw2) H64.out
    rw [listV, if_pos ok, Int.toNat_natCast] at h
    exact h
  have SO := Lib.hid fun (W : World) (hW : Below w.heap.size w W) => (implSymbols_in B n d L W (HL.out.below hW) Hn HOk.out)
  have HIb := Lib.hid (bitsOf_bits N W)
  obtain ⟨Bt, hBt⟩ : ∃ Bt, bitsOf N W = Bt := ⟨_, rfl⟩
  have HBl : Hid (Bt.length = N) := Lib.hid (by rw [← hBt, bitsOf_len])
  rw [hBt] at LO HIb ⊢
  clear hW hL h64 okh ok hBt
  have d3 : decide (z < 0) = false := decide_eq_false (by omega)
  go_enter Try.func31, Try.ntmps31
  go_wp2_with fail
  generalize w.alloc (.cells #[.int .i64 N, .slice A W.length c] 44) = w1 at *
  refine (OKs.out w1 HB0.out).mono ?_
  rintro e w2 ⟨rfl, hb⟩
  have HB2 := Lib.hid (below_then HB0.out hb)
  have HR2 := Lib.hid (HR0.out.below hb HR0.out.lt)
  clear hb HR0 OKs HB0
  have r0 := HR2.out.cell 0
  have r1 := HR2.out.cell 1
  simp only [List.getElem?_toArray, List.getElem?_cons_zero, List.getElem?_cons_succ] at r0 r1
  go_wp2_with fail
  refine (BO.out w2 HB2.out).mono ?_
  rintro e w3 ⟨rfl, hb⟩
  have HB3 := Lib.hid (below_then HB2.out hb)
  have HR3 := Lib.hid (HR2.out.below hb HR2.out.lt)
  clear hb r0 r1 HR2 BO HB2
  go_wp2_with fail
  refine (SO.out w3 HB3.out).mono ?_
  rintro e w4 ⟨rfl, hm4, hb4⟩
  have HB4 := Lib.hid (below_then HB3.out hb4)
  have HR4 := Lib.hid (HR3.out.below hb4 HR3.out.lt)
  have HM5 : Hid (HMap (w4.alloc (.cells #[.int .i64 0, .int .i64 0] 90)) w3.heap.size n L) := Lib.hid (hm4.below ((Below.refl _ _).alloc (Nat.le_refl _) _))
  have HX5 : Hid (Box (w4.alloc (.cells #[.int .i64 0, .int .i64 0] 90)) w4.heap.size 90 #[.int .i64 0, .int .i64 0]) := Lib.hid (Box.made _ _ _)
  have HB5 := Lib.hid (HB4.out.alloc HB4.out.size (.cells #[.int .i64 0, .int .i64 0] 90))
  have HR5 := Lib.hid (HR4.out.alloc (.cells #[.int .i64 0, .int .i64 0] 90))
  have HS5 : Hid (w3.heap.size < w4.heap.size) := Lib.hid (by
    obtain ⟨D, ⟨es, ck, e1, _⟩, _⟩ := hm4
    exact (Array.getElem?_eq_some_iff.1 e1).1)
  clear hb4 hm4 HB3 HR3 SO HR4
  have r0 := HR5.out.cell 0
  have r1 := HR5.out.cell 1
  simp only [List.getElem?_toArray, List.getElem?_cons_zero, List.getElem?_cons_succ] at r0 r1
  go_wp2_with fail
  generalize w4.alloc (.cells #[.int .i64 0, .int .i64 0] 90) = w5 at *
  refine (LO.out w5 HB5.out).mono ?_
  rintro e w6 ⟨v6, rfl, ho6, hb6⟩
  rw [HBl.out] at ho6
  obtain ⟨A6, c6, rfl⟩ := own_slice ho6
  have HO6 := Lib.hid ho6
  have HX6 := Lib.hid (HX5.out.below hb6 HX5.out.lt)
  have HM6 := Lib.hid (HM5.out.below hb6)
  have HB6 := Lib.hid (below_then HB5.out hb6)
  have HA6 : Hid (∀ b o s, A6 = some ⟨b, o, s⟩ → b < w6.heap.size) := Lib.hid (fun b o s e => (ho6.lt b (by rw [e]; rfl)).2)
  have HG6 : Hid (w4.heap.size < w5.heap.size) := Lib.hid HX5.out.lt
  have HG7 : Hid (w4.heap.size < w6.heap.size) := Lib.hid HX6.out.lt
  have HSw : Hid (w.heap.size ≤ w4.heap.size) := Lib.hid HB4.out.size
  clear ho6 hb6 r0 r1 HX5 HM5 HB5 LO HR5 HB4
  have HD0 : Hid (w6.ownsRow w6.heap.size 3 1 (.slice none 0 0) ([] : List Int).length (([] : List Int).map I)) := Lib.hid ⟨rfl, .inl ⟨rfl, rfl⟩⟩
  go_wp2_with fail
  go_loopw [9, 32] (fun v i wr => ∃ (k : Nat) (D P : List Int) (a : Int), k ≤ N ∧ i = .int .i64 k ∧ D.length ≤ 5000 ∧ P.length ≤ 5000 ∧ Hid (HrQ L Bt k D P) ∧ Hid (P.length ≤ 60 → a = (dvN P 0 : Int)) ∧ Hid (Box wr w4.heap.size 90 #[.int .i64 a, .int .i64 (P.length : Int)]) ∧ Hid (HMap wr w3.heap.size n L) ∧ Hid (wr.ownsRow w5.heap.size 3 1 (.slice A6 N c6) N (Bt.map I)) ∧ Hid (wr.ownsRow w6.heap.size 3 1 v D.length (D.map I)) ∧ Hid (Below w.heap.size w wr) ∧ Hid (w6.heap.size ≤ wr.heap.size)) (fun _ i _ => N - (intOf i).toNat)
  case atStart => exact ⟨0, [], [], 0, Nat.zero_le _, rfl, by simp, by simp, Lib.hid (HrQ.zero HOk.out), Lib.hid (fun _ => rfl), HX6, HM6, HO6, HD0, HB6, Lib.hid (Nat.le_refl _)⟩
  case round =>
    clear HX6 HM6 HO6 HD0 HB6
    obtain ⟨k, D, P, a, hk, rfl, hD, hP, HQ, HPa, HX, HM, HO, HDo, HB, HS⟩ := hrel
    obtain ⟨A9, c9, rfl⟩ := own_slice HDo.out
    obtain ⟨p, hp⟩ : ∃ p, P.length = p := ⟨_, rfl⟩
    have HPl := Lib.hid hp
    rw [hp] at hP HX HPa
    clear hp
    have r0 := HX.out.cell 0
    have r1 := HX.out.cell 1
    simp only [List.getElem?_toArray, List.getElem?_cons_zero, List.getElem?_cons_succ] at r0 r1
    have f0 := HX.out.frozen 0
    have f1 := HX.out.frozen 1
    have rl := HX.out.lt
    by_cases hlt : k < N
    · obtain ⟨b2, o2, y, hA6, hbl2, hy, hcy⟩ := (Lies.of_own HO.out).at_ (i := k) (by rw [HBl.out]; exact hlt)
      subst hA6
      have hy01 := HIb.out y (List.mem_of_getElem? hy)
      have HY := Lib.hid hy
      have HPb : Hid (IsBits (P ++ [y])) := Lib.hid (by
        have h1 : IsBits P := fun x hx => by
          rw [← HQ.out.2.2.2.1] at hx
          exact HIb.out x (List.mem_of_mem_drop (List.mem_of_mem_take hx))
        intro x hx
        rcases List.mem_append.mp hx with hx | hx
        · exact h1 x hx
        · rw [List.mem_singleton] at hx; subst hx; exact hy01)
      obtain ⟨a1, ha1⟩ : ∃ a1, IntKind.i64.wrap (2 * a) = a1 := ⟨_, rfl⟩
      obtain ⟨a2, ha2⟩ : ∃ a2, IntKind.i64.wrap (a1 + y) = a2 := ⟨_, rfl⟩
      have HPa2 : Hid ((P ++ [y]).length ≤ 60 → a2 = (dvN (P ++ [y]) 0 : Int)) := Lib.hid (fun h => by
        rw [List.length_append, List.length_singleton, HPl.out] at h
        have h1 := HPa.out (by omega)
        have h2 : dvN P 0 < 2 ^ 59 := by
          have hPb : IsBits P := fun x hx => HPb.out x (List.mem_append_left _ hx)
          have := dvN_lt hPb
          rw [HPl.out] at this
          exact Nat.lt_of_lt_of_le this (Nat.pow_le_pow_right (by omega) (by omega))
        rw [dvN_snoc]
        have e1 : a1 = 2 * a := by rw [← ha1]; exact IntWalk.i64_in _ (by omega)
        have e2 : a2 = a1 + y := by rw [← ha2]; exact IntWalk.i64_in _ (by omega)
        omega)
      have hw1 : wrap64 (2 * a) = a1 := by rw [← IntWalk.i64_left]; exact ha1
      have hw2 : wrap64 (a1 + y) = a2 := by rw [← IntWalk.i64_left]; exact ha2
      have hwf2 : (Lit.int .i64 a2).wf = true := by rw [← hw2]; exact wrap64_wf _
      have hp1 : IntKind.i64.wrap ((p : Int) + 1) = (p : Int) + 1 := IntWalk.i64_in _ (by omega)
      have HKy := Lib.hid (codeKey hwf2 (wf_small (x := p + 1) (by omega)))
      rw [Int.natCast_add, show ((1 : Nat) : Int) = 1 from rfl] at HKy
      have hlen : ((P ++ [y]).length : Int) = (p : Int) + 1 := by rw [List.length_append, List.length_singleton, HPl.out, Int.natCast_add]; rfl
      have hHas := fun (s : Nat) (hs : s < L.length) => hasC_iff HOk.out HPb.out HPa2.out hs
      rw [hlen] at hHas
      have HM2 : Hid (HMap ((wr.setCell ⟨w4.heap.size, 0, none⟩ (.int .i64 a2)).setCell ⟨w4.heap.size, 1, none⟩ (.int .i64 ((p : Int) + 1))) w3.heap.size n L) := Lib.hid ((HM.out.set (Nat.ne_of_lt HS5.out) _).set (Nat.ne_of_lt HS5.out) _)
      have HX2 : Hid (Box ((wr.setCell ⟨w4.heap.size, 0, none⟩ (.int .i64 a2)).setCell ⟨w4.heap.size, 1, none⟩ (.int .i64 ((p : Int) + 1))) w4.heap.size 90 #[.int .i64 a2, .int .i64 ((P ++ [y]).length : Int)]) := Lib.hid (by rw [hlen]; exact (HX.out.put 0 _).put 1 _)
      have HO2 := Lib.hid (ownsRow_setCell_below (ownsRow_setCell_below HO.out (a := ⟨w4.heap.size, 0, none⟩) HG6.out (.int .i64 a2)) (a := ⟨w4.heap.size, 1, none⟩) HG6.out (.int .i64 ((p : Int) + 1)))
      have HDo2 := Lib.hid (ownsRow_setCell_below (ownsRow_setCell_below HDo.out (a := ⟨w4.heap.size, 0, none⟩) HG7.out (.int .i64 a2)) (a := ⟨w4.heap.size, 1, none⟩) HG7.out (.int .i64 ((p : Int) + 1)))
      have HB2 : Hid (Below w.heap.size w ((wr.setCell ⟨w4.heap.size, 0, none⟩ (.int .i64 a2)).setCell ⟨w4.heap.size, 1, none⟩ (.int .i64 ((p : Int) + 1)))) := Lib.hid ((HB.out.setCell HSw.out _).setCell HSw.out _)
      have HS2 : Hid (w6.heap.size ≤ ((wr.setCell ⟨w4.heap.size, 0, none⟩ (.int .i64 a2)).setCell ⟨w4.heap.size, 1, none⟩ (.int .i64 ((p : Int) + 1))).heap.size) := Lib.hid (by rw [World.size_setCell, World.size_setCell]; exact HS.out)
      obtain ⟨Dm, hD1, _, hD3⟩ := HM2.out
      have HD1 := Lib.hid hD1
      have hq0 := HQ.out.1
      clear hD1
      by_cases hf : ∃ s, s < n ∧ HasC L s a2 ((p : Int) + 1)
      · obtain ⟨s, hs, hcs⟩ := hf
        have hfd := (hD3 _ _ _ HKy.out).1 s hs hcs
        have hsy := (hHas s (by rw [Hn.out]; exact hs)).mp hcs
        have HQ2 := Lib.hid (HQ.out.hit HOk.out HY.out hsy.1 hsy.2)
        have HFd := Lib.hid hfd
        clear hHas hD3 hcs hsy hfd hlen hwf2 HPa2 HPb hy01 hy HX HM HO HDo HB HS
        have hEl : (D ++ [(s : Int)]).length ≤ 5000 := by
          have h1 := HQ2.out.2.2.1.size HOk.out
          have h2 := HQ2.out.2.1
          rw [HBl.out] at h2
          simp only [List.length_nil, Nat.sub_zero] at h1
          omega
        have hDl : D.length ≤ 1000000 := by omega
        clear hD hP hq0
        go_wp2_with (first | (at_lookup; refine wpList_lookup_own_ok_int _ rfl _ _ 87 rfl 90 3 .i64 codeKeyed Try.underlying87 Try.underlying3 (zeroInt _) w3.heap.size n Dm rfl HD1.out _ _ rfl HKy.out ?_))
        intro cc hat hwc
        have hcc : cc = (s : Int) := by
          have h1 := hat.symm.trans HFd.out.1
          injection h1 with h1
          injection h1
        rw [HFd.out.2]
        obtain ⟨E, hE⟩ : ∃ E, D ++ [cc] = E := ⟨_, rfl⟩
        rw [← hcc, hE] at hEl HQ2
        have HE := Lib.hid hE
        clear hat hwc hcc hE HD1 HFd r0 r1 f0 f1 rl hs ha1 ha2 hw1 hw2
        generalize (wr.setCell ⟨w4.heap.size, 0, none⟩ (.int .i64 a2)).setCell ⟨w4.heap.size, 1, none⟩ (.int .i64 ((p : Int) + 1)) = w7 at *
        go_wp2_with (at_builtin; refine wpList_pushI rfl _ _ rfl w6.heap.size _ _ _ rfl HDo2.out cc rfl HS2.out hDl _ HE.out ?_)
        intro A8 c8 w8 ho8 hg8
        have hb8 : Below w6.heap.size w7 w8 := grown_below HDo2.out hg8 (Nat.le_refl _) HS2.out
        have HX8 := Lib.hid (HX2.out.below hb8 HG7.out)
        have HM8 := Lib.hid (HM2.out.keep hb8 (Nat.lt_trans HS5.out HG7.out))
        have HO8 := Lib.hid (own_keep HO2.out (fun b o s e => HA6.out _ _ _ e) hb8)
        have HDo8 := Lib.hid ho8
        have HB8 : Hid (Below w.heap.size w w8) := Lib.hid (HB2.out.trans (hb8.mono (Nat.le_trans HSw.out (Nat.le_of_lt HG7.out))))
        have HS8 : Hid (w6.heap.size ≤ w8.heap.size) := Lib.hid (Nat.le_trans HS2.out hb8.size)
        clear ho8 hg8 hb8 HX2 HM2 HO2 HDo2 HB2 HS2
        have r0 := HX8.out.cell 0
        have r1 := HX8.out.cell 1
        simp only [List.getElem?_toArray, List.getElem?_cons_zero, List.getElem?_cons_succ] at r0 r1
        have f0 := HX8.out.frozen 0
        have f1 := HX8.out.frozen 1
        have rl := HX8.out.lt
        go_wp2
        go_roundw
        case rel => exact ⟨k + 1, E, [], 0, by omega, by go_num, hEl, by simp, HQ2, Lib.hid (fun _ => rfl), Lib.hid ((HX8.out.put 0 _).put 1 _), Lib.hid ((HM8.out.set (Nat.ne_of_lt HS5.out) _).set (Nat.ne_of_lt HS5.out) _), Lib.hid (ownsRow_setCell_below (ownsRow_setCell_below HO8.out (by exact HG6.out) _) (by exact HG6.out) _), Lib.hid (ownsRow_setCell_below (ownsRow_setCell_below HDo8.out (by exact HG7.out) _) (by exact HG7.out) _), Lib.hid ((HB8.out.setCell HSw.out _).setCell HSw.out _), Lib.hid (by rw [World.size_setCell, World.size_setCell]; exact HS8.out)⟩
        case measure => simp [intOf]; omega
      · have HFd := Lib.hid ((hD3 _ _ _ HKy.out).2 fun s hs hc => hf ⟨s, hs, hc⟩)
        have HQ2 := Lib.hid (HQ.out.miss HY.out fun x hx he => hf (by
          have h1 := hsym_len HOk.out hx
          refine ⟨x.toNat, by rw [← Hn.out]; exact h1.2.2.1, (hHas x.toNat h1.2.2.1).mpr ?_⟩
          rw [Int.toNat_of_nonneg h1.2.2.2.1]
          exact ⟨hx, he⟩))
        clear hf hHas hD3 hlen hwf2 hy hy01 HX HM HO HDo HB HS
        have hP2 : (P ++ [y]).length ≤ 5000 := by
          have := HQ2.out.1
          omega
        go_wp2_with (first | (at_lookup; refine wpList_lookup_own_ok_int _ rfl _ _ 87 rfl 90 3 .i64 codeKeyed Try.underlying87 Try.underlying3 (zeroInt _) w3.heap.size n Dm rfl HD1.out _ _ rfl HKy.out ?_))
        intro cc hat hwc
        rw [HFd.out]
        clear hat hwc HD1 r0 r1 f0 f1 rl ha1 ha2 hw1 hw2
        generalize (wr.setCell ⟨w4.heap.size, 0, none⟩ (.int .i64 a2)).setCell ⟨w4.heap.size, 1, none⟩ (.int .i64 ((p : Int) + 1)) = w7 at *
        go_wp2
        go_roundw
        case rel => exact ⟨k + 1, D, P ++ [y], a2, by omega, by go_num, hD, hP2, HQ2, HPa2, HX2, HM2, HO2, HDo2, HB2, HS2⟩
        case measure => simp [intOf]; omega
    · have hkN : k = N := by omega
      have HQ2 : Hid (HrQ L Bt Bt.length D P) := Lib.hid (by rw [HBl.out]; exact hkN ▸ HQ.out)
      by_cases hp0 : 0 < p
      · have HNo : Hid (∀ D2, ¬ HrD true L Bt z D2) := Lib.hid (HQ2.out.left (by rw [HPl.out]; exact hp0))
        have d1 : decide ((0 : Int) < (p : Int)) = true := decide_eq_true (by omega)
        have d1b : decide (0 < p) = true := decide_eq_true hp0
        clear hp0
        go_wp2
        go_ret2
        exact hrPost_no HNo.out HB.out
      · have HI2 := Lib.hid (HQ2.out.done (by rw [HPl.out]; omega))
        have d1 : decide ((0 : Int) < (p : Int)) = false := decide_eq_false (by omega)
        have d1b : decide (0 < p) = false := decide_eq_false hp0
        clear hp0
        by_cases hDz : (D.length : Int) = z
        · have HY := Lib.hid (HI2.out.all HOk.out hDz)
          have t1 : ((D.length : Int) != z) = false := by rw [hDz]; simp
          have HO9 := Lib.hid (own_mono HDo.out (Nat.le_trans HSw.out (Nat.le_of_lt HG7.out)))
          clear hDz
          go_wp2
          go_ret2
          exact hrPost_yes HY.out HO9.out HB.out
        · have HNo : Hid (∀ D2, ¬ HrD true L Bt z D2) := Lib.hid (HI2.out.other hDz)
          have t1 : ((D.length : Int) != z) = true := by rw [bne_iff_ne]; exact hDz
          clear hDz
          go_wp2
          go_ret2
          exact hrPost_no HNo.out HB.out

theorem implHuffRead_any (N : Int) (A B : Option Addr) (c d : Nat) (z : Int) (W : List Nat) (L : List Int) (w : World) (hW : Lies w U A W) (hL : Lies w I B L) (h64 : ∀ x ∈ W, x < 2 ^ 64) :
    Calls Try.prog 31 #[.agg #[.int .i64 N, .slice A W.length c], .slice B L.length d, .int .i64 z] w (HrPost (okB N W) L (bitsOf N.toNat W) z w) := by
  by_cases h : okB N W = false ∨ okH L = false ∨ z < 0
  · exact implHuffRead_bad N A B L.length c d z W L w hW hL h64 (Lib.hid rfl) h
  · have h1 : okB N W = true := by
      cases e : okB N W with
      | true => rfl
      | false => exact absurd (.inl e) h
    have h2 : okH L = true := by
      cases e : okH L with
      | true => rfl
      | false => exact absurd (.inr (.inl e)) h
    have h3 : 0 ≤ z := Int.not_lt.mp fun e => h (.inr (.inr e))
    rw [h1]
    obtain ⟨n, rfl, hn, hl, _⟩ := okB_nat h1
    rw [Int.toNat_natCast]
    exact implHuffRead_in A B n L.length c d z W L w hW hL h64 h1 hn (Lib.hid rfl) h2 h3

end Go.Proofs.Ytoehgcakfblblaa
