/- HuffRead of the specification. -/
import Derived.Test.YtoehgcakfblblaaHmKey
import Derived.Test.YtoehgcakfblblaaHf4
import Derived.Test.YtoehgcakfblblaaHw2
import Derived.Test.YtoehgcakfblblaaJoin2
import Derived.Test.YtoehgcakfblblaaSame3
import Derived.Test.YtoehgcakfblblaaSlMid
namespace Go.Proofs.Ytoehgcakfblblaa
open Go.RowKit
set_option maxRecDepth 100000

/-- What HuffRead returns. -/
def HrPost (g : Bool) (L B : List Int) (z : Int) (w : World) (e : Ending) (w' : World) : Prop :=
  ∃ A c, e = .returned (.tuple #[.slice A (hrL g L B z).length c, .bool (hrOk g L B z)]) ∧ w'.ownsRow w.heap.size 3 1 (.slice A (hrL g L B z).length c) (hrL g L B z).length ((hrL g L B z).map I) ∧ Below w.heap.size w w'
theorem hrPost_no {g : Bool} {L B : List Int} {z : Int} {w w' : World} (h : ∀ D, ¬ HrD g L B z D) (hb : Below w.heap.size w w') : HrPost g L B z w (.returned (.tuple #[.slice none 0 0, .bool false])) w' := by
  unfold HrPost
  rw [(hr_no h).1, (hr_no h).2]
  exact ⟨none, 0, rfl, ⟨rfl, .inl ⟨rfl, rfl⟩⟩, hb⟩
theorem hrPost_yes {g : Bool} {L B : List Int} {z : Int} {D : List Int} {A : Option Addr} {c : Nat} {w w' : World} (h : HrD g L B z D) (ho : w'.ownsRow w.heap.size 3 1 (.slice A D.length c) D.length (D.map I)) (hb : Below w.heap.size w w') : HrPost g L B z w (.returned (.tuple #[.slice A D.length c, .bool true])) w' := by
  unfold HrPost
  rw [(hr_yes h).1, (hr_yes h).2]
  exact ⟨A, c, rfl, ho, hb⟩

set_option maxHeartbeats 1600000 in
theorem specHuffRead_bad (N : Int) (A B : Option Addr) (n c d : Nat) (z : Int) (W : List Nat) (L : List Int) (w : World) (hW : Lies w U A W) (hL : Lies w I B L) (h64 : ∀ x ∈ W, x < 2 ^ 64) (Hn : Hid (L.length = n)) (h : okB N W = false ∨ okH L = false ∨ z < 0) :
    Calls Try.prog 49 #[.agg #[.int .i64 N, .slice A W.length c], .slice B n d, .int .i64 z] w (HrPost (okB N W) L (bitsOf N.toNat W) z w) := by
  have HNo : Hid (∀ D, ¬ HrD (okB N W) L (bitsOf N.toNat W) z D) := Lib.hid (by
    rcases h with h | h | h
    · rw [h]; exact hrD_g
    · exact hrD_ok h
    · exact hrD_neg h)
  have HR0 : Hid (Box (w.alloc (.cells #[.int .i64 N, .slice A W.length c] 44)) w.heap.size 44 #[.int .i64 N, .slice A W.length c]) := Lib.hid (Box.made _ _ _)
  have HB0 : Hid (Below w.heap.size w (w.alloc (.cells #[.int .i64 N, .slice A W.length c] 44))) := Lib.hid ((Below.refl _ _).alloc (Nat.le_refl _) _)
  have BO := Lib.hid (specOk_any N A c W _ (hW.below HB0.out) h64)
  have OKs := Lib.hid fun (W : World) (hW : Below w.heap.size w W) => by
    have h := specHuffOk_any B d L W (hL.below hW)
    rw [Hn.out] at h
    exact h
  clear hW hL h64
  have r0 := HR0.out.cell 0
  have r1 := HR0.out.cell 1
  simp only [List.getElem?_toArray, List.getElem?_cons_zero, List.getElem?_cons_succ] at r0 r1
  go_enter Try.func49, Try.ntmps49
  go_wp2_with fail
  generalize w.alloc (.cells #[.int .i64 N, .slice A W.length c] 44) = w1 at *
  refine BO.out.mono ?_
  rintro e w2 ⟨rfl, hb⟩
  have HB2 := Lib.hid (below_then HB0.out hb)
  clear hb r0 r1 HR0 BO HB0
  by_cases h1 : okB N W = true
  · rw [h1]
    go_wp2_with fail
    refine (OKs.out w2 HB2.out).mono ?_
    rintro e w3 ⟨rfl, rfl⟩
    by_cases h2 : okH L = true
    · rw [h2]
      have hz : z < 0 := by
        rcases h with h | h | h
        · rw [h] at h1; cases h1
        · rw [h] at h2; cases h2
        · exact h
      have d3 : decide (z < 0) = true := decide_eq_true hz
      clear h h1 h2 OKs
      go_wp2
      go_ret2
      exact hrPost_no HNo.out HB2.out
    · rw [show okH L = false by simpa using h2]
      clear h h1 h2 OKs
      go_wp2
      go_ret2
      exact hrPost_no HNo.out HB2.out
  · have h1' : okB N W = false := by simpa using h1
    rw [h1']
    clear h h1 h1' OKs
    go_wp2
    go_ret2
    exact hrPost_no HNo.out HB2.out

set_option maxHeartbeats 6400000 in
theorem specHuffRead_in (A B : Option Addr) (N n c d : Nat) (z : Int) (W : List Nat) (L : List Int) (w : World) (hW : Lies w U A W) (hL : Lies w I B L) (h64 : ∀ x ∈ W, x < 2 ^ 64) (ok : okB (N : Int) W = true) (hN : N ≤ 5000) (Hl : Hid (W.length = (N + 63) / 64)) (Hn : Hid (L.length = n)) (okh : okH L = true) (hz : 0 ≤ z) :
    Calls Try.prog 49 #[.agg #[.int .i64 N, .slice A W.length c], .slice B n d, .int .i64 z] w (HrPost true L (bitsOf N W) z w) := by
  have HW := Lib.hid hW
  have HL := Lib.hid hL
  have H64 := Lib.hid h64
  have HOk := Lib.hid okh
  have hn := okH_len okh
  rw [Hn.out] at hn
  have HR0 : Hid (Box (w.alloc (.cells #[.int .i64 N, .slice A W.length c] 44)) w.heap.size 44 #[.int .i64 N, .slice A W.length c]) := Lib.hid (Box.made _ _ _)
  have HB0 : Hid (Below w.heap.size w (w.alloc (.cells #[.int .i64 N, .slice A W.length c] 44))) := Lib.hid ((Below.refl _ _).alloc (Nat.le_refl _) _)
  have BO := Lib.hid (specOk_any N A c W _ (hW.below HB0.out) h64)
  rw [ok] at BO
  have OKs := Lib.hid fun (W : World) (hW : Below w.heap.size w W) => by
    have h := specHuffOk_any B d L W (HL.out.below hW)
    rw [HOk.out, Hn.out] at h
    exact h
  have LO := Lib.hid fun (w2 : World) (hw2 : Below w.heap.size w w2) => list_new N A c W w2 (HW.out.below hw2) Hl.out hN H64.out
  have CO := Lib.hid fun (W : World) (hW : Below w.heap.size w W) => (specHuffCodes_in B n d L W (HL.out.below hW) Hn HOk.out)
  obtain ⟨Bt, hBt⟩ : ∃ Bt, bitsOf N W = Bt := ⟨_, rfl⟩
  have HBl : Hid (Bt.length = N) := Lib.hid (by rw [← hBt, bitsOf_len])
  rw [hBt] at LO ⊢
  have r0 := HR0.out.cell 0
  have r1 := HR0.out.cell 1
  simp only [List.getElem?_toArray, List.getElem?_cons_zero, List.getElem?_cons_succ] at r0 r1
  clear hW hL h64 okh ok hBt
  have d3 : decide (z < 0) = false := decide_eq_false (by omega)
  go_enter Try.func49, Try.ntmps49
  go_wp2_with fail
  generalize w.alloc (.cells #[.int .i64 N, .slice A W.length c] 44) = w1 at *
  refine BO.out.mono ?_
  rintro e w2 ⟨rfl, hb⟩
  have HB2 := Lib.hid (below_then HB0.out hb)
  have HR2 := Lib.hid (HR0.out.below hb HR0.out.lt)
  clear hb r0 r1 HR0 BO HB0
  have r0 := HR2.out.cell 0
  have r1 := HR2.out.cell 1
  simp only [List.getElem?_toArray, List.getElem?_cons_zero, List.getElem?_cons_succ] at r0 r1
  go_wp2_with fail
  refine (OKs.out w2 HB2.out).mono ?_
  rintro e w3 ⟨rfl, rfl⟩
  clear OKs
  go_wp2_with fail
  refine (LO.out w2 HB2.out).mono ?_
  rintro e w3 ⟨A3, c3, rfl, ho3, hb3⟩
  have HO3 := Lib.hid ho3
  have HB3 := Lib.hid (below_then HB2.out hb3)
  clear ho3 hb3 r0 r1 HR2 LO
  go_wp2_with fail
  refine (CO.out w3 HB3.out).mono ?_
  rintro e w4 ⟨A4, c4, rfl, ho4, hb4⟩
  have HC4 := Lib.hid (Lies.of_own ho4)
  have HCl : Hid ((hcodes L).length = n) := Lib.hid (by rw [hcodes_len, Hn.out])
  rw [HCl.out]
  have HB4 := Lib.hid (below_then HB3.out hb4)
  have HBi4 := Lib.hid ((Lies.of_own HO3.out).below hb4)
  have HCap := Lib.hid (row_cap HO3.out).1
  have HFm := Lib.hid HO3.out
  have HOb : Hid ((w4.alloc (.cells #[] 3)).ownsRow w4.heap.size 3 1 (.slice (some ⟨w4.heap.size, 0, none⟩) ([] : List Int).length 0) ([] : List Int).length (([] : List Int).map I)) := Lib.hid (World.ownsRow_made w4 (e := 3) (size := 1) #[] 0 (Nat.le_refl _) (by unfold maxLen; omega) rfl)
  have HB5 : Hid (Below w4.heap.size w4 (w4.alloc (.cells #[] 3))) := Lib.hid ((Below.refl _ _).alloc (Nat.le_refl _) _)
  clear ho4 hb4 HO3 HB3 CO HB2
  go_wp2_with fail
  generalize w4.alloc (.cells #[] 3) = w5 at *
  go_loopw [10, 11] (fun v i wr => ∃ (k : Nat) (D : List Int), k ≤ N ∧ i = .int .i64 k ∧ D.length ≤ 5000 ∧ Hid (HrI L Bt k D) ∧ Hid (wr.ownsRow w4.heap.size 3 1 v D.length (D.map I)) ∧ Hid (Below w4.heap.size w4 wr)) (fun _ i _ => N - (intOf i).toNat)
  case atStart => exact ⟨0, [], Nat.zero_le _, rfl, by simp, Lib.hid (HrI.zero _ _), HOb, HB5⟩
  case round =>
    clear HOb HB5
    obtain ⟨k, D, hk, rfl, hD, HI, HO, HB⟩ := hrel
    obtain ⟨w6, hw6⟩ : ∃ w6, w6 = wr := ⟨_, rfl⟩
    subst hw6
    have HBw := Lib.hid (below_then HB4.out HB.out)
    obtain ⟨A5, c5, rfl⟩ := own_slice HO.out
    by_cases hlt : k < N
    · obtain ⟨b3, g3, hv3, _, _⟩ := HFm.out.form (by omega)
      injection hv3 with e1 e2 e3
      subst e1 e3
      clear e2
      go_wp2_with fail
      go_loopw [12, 13] (fun h i wr => ∃ (j : Nat) (x : Int), j ≤ n ∧ i = .int .i64 j ∧ h = .int .i64 x ∧ Hid (HrH L Bt k j x) ∧ Hid (Below w6.heap.size w6 wr)) (fun _ i _ => n - (intOf i).toNat)
      case atStart => exact ⟨0, -1, Nat.zero_le _, rfl, rfl, Lib.hid (HrH.zero _ _ _), Lib.hid (Below.refl _ _)⟩
      case round =>
        obtain ⟨j, x, hj, rfl, rfl, HH, HB6⟩ := hrel
        have HB46 := Lib.hid (below_then HB.out HB6.out)
        have HB06 := Lib.hid (below_then HBw.out HB6.out)
        by_cases hjn : j < n
        · obtain ⟨bl, ol, l, hBe, hbl, hl, hcl⟩ := (HL.out.below HB06.out).at_ (i := j) (by rw [Hn.out]; exact hjn)
          subst hBe
          have hgl := gl_eq hl
          have hl60 := okH_all HOk.out l (List.mem_of_getElem? hl)
          obtain ⟨m, rfl⟩ : ∃ m : Nat, l = (m : Int) := ⟨l.toNat, by omega⟩
          have hm60 : m ≤ 60 := by omega
          clear hl hl60
          have y1 : (j : Int) < (n : Int) := by omega
          by_cases hm0 : m = 0
          · have HH2 := Lib.hid (HH.out.skip (HrM.no0 (by rw [hgl]; omega)))
            have d1 : decide ((0 : Int) < (m : Int)) = false := decide_eq_false (by omega)
            have d1b : decide (0 < m) = false := decide_eq_false (by omega)
            clear hgl hm0
            go_wp2
            go_quiet (fail)
            go_wp2
            go_roundw
            case rel => exact ⟨j + 1, x, by omega, by go_num, rfl, HH2, Lib.hid (HB6.out.trans ((Drawn.below ⟨_, rfl⟩ _)))⟩
            case measure => simp [intOf]; omega
          · by_cases hkm : k + m ≤ N
            · have hcs := hcode_small HOk.out (i := j) (by rw [Hn.out]; exact hjn) (by rw [hgl]; omega)
              have hcod := hcodes_get (L := L) (j := j) (by rw [Hn.out]; exact hjn)
              rw [hgl, if_pos (by omega)] at hcod
              obtain ⟨q, hq⟩ : ∃ q, hcode L j = q := ⟨_, rfl⟩
              rw [hq] at hcs hcod
              obtain ⟨b2, o2, hA4, hbl2, hcc⟩ := (HC4.out.below HB46.out) j _ hcod
              subst hA4
              have HCd := Lib.hid fun (W : World) => specCode8_any q m W hcs hm60
              obtain ⟨M, hM⟩ : ∃ M, hbits q m = M := ⟨_, rfl⟩
              have hMl : M.length = m := by rw [← hM, hbits_len]
              rw [hM] at HCd
              obtain ⟨o3, hs3, hS3⟩ := slice_midH Try.elemInts Try.sizeInt b3 0 N c3 Bt k (k + m) wr HBl (HBi4.out.below HB46.out) (by omega) hkm HCap.out
              rw [Nat.add_sub_cancel_left, Int.natCast_add] at hs3
              rw [Nat.add_sub_cancel_left] at hS3
              obtain ⟨S, hS⟩ : ∃ S, (Bt.drop k).take m = S := ⟨_, rfl⟩
              rw [hS] at hs3 hS3
              have hiff := HrM.iff (B := Bt) (k := k) (M := M) hgl (by omega) (by rw [hq]; exact hM) hS
              have HSl := Lib.hid hS3
              obtain ⟨bb, hbb⟩ : ∃ bb, decide (M = S) = bb := ⟨_, rfl⟩
              have HSame := Lib.hid fun (A7 : Option Addr) (c7 : Nat) (W : World) (h1 : Lies W I A7 M) (h2 : Lies W I (some ⟨b3, o3, none⟩) S) => sameL A7 (some ⟨b3, o3, none⟩) c7 (c3 - k) M S W h1 h2 (by omega)
              rw [hbb] at HSame
              have HIf : Hid (bb = true ↔ HrM L Bt k j) := Lib.hid (by rw [hiff, ← hbb, decide_eq_true_iff])
              have hw1 : IntKind.i64.wrap ((k : Int) + (m : Int)) = (k : Int) + (m : Int) := IntWalk.i64_in _ (by omega)
              have d1 : decide ((0 : Int) < (m : Int)) = true := decide_eq_true (by omega)
              have d1b : decide (0 < m) = true := decide_eq_true (by omega)
              have d2 : decide ((k : Int) + (m : Int) ≤ (N : Int)) = true := decide_eq_true (by omega)
              have d2b : decide (k + m ≤ N) = true := decide_eq_true hkm
              clear hM hS hiff hbb hq hgl hcod hcs hMl hS3 hm0
              go_wp2_with fail
              go_region_held3 (fun w' => w'.cell? ⟨bl, ol + j, none⟩ = some (.int .i64 m) ∧ w'.cell? ⟨b2, o2 + j, none⟩ = some (.int .i64 q)) (first | (go_keep; done) | (refine ⟨?_, ?_⟩ <;> assumption) | trivial)
                (first
                  | (go_at_call 74; (with_reducible refine Calls.mono (HCd.out _) ?_); rintro e w7 ⟨A7, c7, rfl, ho7, hb7⟩; have HB7 : Hid (Below wr.heap.size wr w7) := Lib.hid ⟨hb7.os, hb7.tape, hb7.output, hb7.size, hb7.block⟩; have HL7 := Lib.hid (Lies.of_own ho7); have hcl7 := (HB7.out.cell (p := ⟨bl, ol + j, none⟩) hbl).trans hcl; have hcc7 := (HB7.out.cell (p := ⟨b2, o2 + j, none⟩) hbl2).trans hcc; clear ho7 hb7)
                  | (go_at_call 97; (with_reducible refine Calls.mono (HSame.out A7 c7 _ HL7.out (HSl.out.below HB7.out)) ?_); rintro e w8 ⟨rfl, q8, rfl⟩))
              all_goals
                have HB8 := Lib.hid (HB6.out.trans (HB7.out.mono HB6.out.size))
                cases bb
                · have HH2 := Lib.hid (HH.out.skip fun e => absurd (HIf.out.mpr e) (by decide))
                  clear hcl hcc hcl7 hcc7 HIf HH
                  go_wp2
                  go_roundw
                  case rel => exact ⟨j + 1, x, by omega, by go_num, rfl, HH2, Lib.hid (HB8.out.trans (Drawn.below ⟨_, rfl⟩ _))⟩
                  case measure => simp [intOf]; omega
                · have HH2 := Lib.hid (HH.out.take (HIf.out.mp rfl))
                  clear hcl hcc hcl7 hcc7 HIf HH
                  go_wp2
                  go_roundw
                  case rel => exact ⟨j + 1, (j : Int), by omega, by go_num, rfl, HH2, Lib.hid (HB8.out.trans (Drawn.below ⟨_, rfl⟩ _))⟩
                  case measure => simp [intOf]; omega
            · have HH2 := Lib.hid (HH.out.skip (HrM.no1 (by rw [HBl.out, hgl, Int.toNat_natCast]; omega) (by rw [HBl.out]; exact hk)))
              have hw1 : IntKind.i64.wrap ((k : Int) + (m : Int)) = (k : Int) + (m : Int) := IntWalk.i64_in _ (by omega)
              have d1 : decide ((0 : Int) < (m : Int)) = true := decide_eq_true (by omega)
              have d1b : decide (0 < m) = true := decide_eq_true (by omega)
              have d2 : decide ((k : Int) + (m : Int) ≤ (N : Int)) = false := decide_eq_false (by omega)
              have d2b : decide (k + m ≤ N) = false := decide_eq_false hkm
              clear hgl hm0
              go_wp2
              go_quiet (fail)
              go_wp2
              go_roundw
              case rel => exact ⟨j + 1, x, by omega, by go_num, rfl, HH2, Lib.hid (HB6.out.trans ((Drawn.below ⟨_, rfl⟩ _)))⟩
              case measure => simp [intOf]; omega
        · have hjn2 : j = n := by omega
          have HHn : Hid (HrH L Bt k n x) := Lib.hid (hjn2 ▸ HH.out)
          clear HH hjn2
          rcases HHn.out with ⟨rfl, hno⟩ | ⟨s, hs, rfl, hm⟩
          · have HNo : Hid (∀ D2, ¬ HrD true L Bt z D2) := Lib.hid (HI.out.stop (by rw [HBl.out]; exact hlt) (HrM.none (by rw [Hn.out]; exact hno) HOk.out))
            clear hno HHn
            go_wp2
            go_ret2
            exact hrPost_no HNo.out HB06.out
          · have hms := hm.sym (by rw [Hn.out]; exact hs)
            have hst := HI.out.step hms.1 hms.2
            rw [Int.toNat_natCast] at hst
            obtain ⟨bl, ol, l, hBe, hbl, hl, hcl⟩ := HL.out.at_ (i := s) (by rw [Hn.out]; exact hs)
            subst hBe
            have hgl := gl_eq hl
            have hl60 := okH_all HOk.out l (List.mem_of_getElem? hl)
            obtain ⟨m, rfl⟩ : ∃ m : Nat, l = (m : Int) := ⟨l.toNat, by omega⟩
            rw [hgl, Int.toNat_natCast] at hst
            have hm0 : 0 < m := by
              have := hm.1
              rw [hgl] at this
              omega
            have hkN := hst.1
            rw [HBl.out] at hkN
            have hsz := hst.size HOk.out
            have y1 : (s : Int) < (n : Int) := by omega
            have hneg : decide ((s : Int) < 0) = false := by simp
            have hw1 : IntKind.i64.wrap ((k : Int) + (m : Int)) = (k : Int) + (m : Int) := IntWalk.i64_in _ (by omega)
            obtain ⟨E, hE⟩ : ∃ E, D ++ [(s : Int)] = E := ⟨_, rfl⟩
            have hEl : E.length ≤ 5000 := by rw [hE] at hsz; omega
            rw [hE] at hst
            have HI2 := Lib.hid hst
            have HE := Lib.hid hE
            have HOw : Hid (wr.ownsRow w4.heap.size 3 1 (.slice A5 D.length c5) D.length (D.map I)) := Lib.hid (own_below HO.out HB6.out (Nat.le_refl _))
            have HSz : Hid (w4.heap.size ≤ wr.heap.size) := Lib.hid HB46.out.size
            clear hst hE hsz hms hm hs hl hl60 hgl HHn
            go_wp2_with (at_builtin; refine wpList_pushI rfl _ _ rfl w4.heap.size _ _ _ rfl HOw.out (s : Int) rfl HSz.out (by omega) _ HE.out ?_)
            intro A8 c8 w8 ho8 hg8
            have HO8 := Lib.hid ho8
            have HB8 := Lib.hid (HB46.out.trans (grown_below HOw.out hg8 (Nat.le_refl _) HSz.out))
            have hcl8 := ((below_then HB4.out HB8.out).cell (p := ⟨bl, ol + s, none⟩) hbl).trans hcl
            clear ho8 hg8 hcl
            go_wp2
            go_roundw
            case rel => exact ⟨k + m, E, hkN, by go_num, hEl, HI2, HO8, HB8⟩
            case measure => simp [intOf]; omega
    · have hkN : k = N := by omega
      have HI2 : Hid (HrI L Bt Bt.length D) := Lib.hid (by rw [HBl.out]; exact hkN ▸ HI.out)
      by_cases hDz : (D.length : Int) = z
      · have HY := Lib.hid (HI2.out.all HOk.out hDz)
        have t1 : ((D.length : Int) != z) = false := by rw [hDz]; simp
        have hbw := HBw.out.size
        have HO9 := Lib.hid (own_mono HO.out HB4.out.size)
        clear hDz
        go_wp2
        go_ret2
        exact hrPost_yes HY.out HO9.out HBw.out
      · have HNo : Hid (∀ D2, ¬ HrD true L Bt z D2) := Lib.hid (HI2.out.other hDz)
        have t1 : ((D.length : Int) != z) = true := by rw [bne_iff_ne]; exact hDz
        clear hDz
        go_wp2
        go_ret2
        exact hrPost_no HNo.out HBw.out

theorem specHuffRead_any (N : Int) (A B : Option Addr) (c d : Nat) (z : Int) (W : List Nat) (L : List Int) (w : World) (hW : Lies w U A W) (hL : Lies w I B L) (h64 : ∀ x ∈ W, x < 2 ^ 64) :
    Calls Try.prog 49 #[.agg #[.int .i64 N, .slice A W.length c], .slice B L.length d, .int .i64 z] w (HrPost (okB N W) L (bitsOf N.toNat W) z w) := by
  by_cases h : okB N W = false ∨ okH L = false ∨ z < 0
  · exact specHuffRead_bad N A B L.length c d z W L w hW hL h64 (Lib.hid rfl) h
  · have h1 : okB N W = true := by
      cases e : okB N W with
      | true => rfl
      | false => exact absurd (.inl e) h
    have h2 : okH L = true := by
      cases e : okH L with
      | true => rfl
      | false => exact absurd (.inr (.inl e)) h
    have h3 : 0 ≤ z := Int.not_lt.mp fun e => h (.inr (.inr e))
    rw [h1]
    obtain ⟨n, rfl, hn, hl, _⟩ := okB_nat h1
    rw [Int.toNat_natCast]
    exact specHuffRead_in A B n L.length c d z W L w hW hL h64 h1 hn (Lib.hid hl) (Lib.hid rfl) h2 h3

end Go.Proofs.Ytoehgcakfblblaa
