/- The program's SparseOf, whole. -/
import Derived.Test.YtlbnngolcoefdaaDoorSp4
import Derived.Test.YtlbnngolcoefdaaDoorStage
import Derived.Deep.DeepCutAuto
namespace Go.Proofs.YtlbnngolcoefdaaDoor
open Go.RowKit
set_option maxRecDepth 100000

theorem spFits_nat {n : Nat} {u : Int} (h : spFits n u = true) : ∃ v : Nat, u = v ∧ v ≤ 1000000 ∧ fitsB n (lowV n v) = true ∧ hiV n v ≤ 5000 ∧ n ≤ 5000 := by
  unfold spFits at h
  rw [Bool.and_eq_true, Bool.and_eq_true, decide_eq_true_iff, decide_eq_true_iff] at h
  obtain ⟨⟨h1, h2⟩, h3, h4⟩ := h
  obtain ⟨v, rfl⟩ := Int.eq_ofNat_of_zero_le h1
  rw [Int.toNat_natCast] at h3 h4
  exact ⟨v, rfl, by omega, h3, h4, Nat.le_trans (Nat.le_trans (Nat.le_add_right _ _) (Nat.le_add_right _ _)) h4⟩

theorem sparse_yes {B : List Int} {u : Nat} {w : World} (hok : spOk B u = true) : ∀ e w', NewSparse w u B.length (poP (rems (lowV B.length u) B) (lowV B.length u)) (poN (rems (lowV B.length u) B) (lowV B.length u)) (poM (rems (lowV B.length u) B) (lowV B.length u)) (poW (rems (lowV B.length u) B) (lowV B.length u))
    (resN (hb B (lowV B.length u) B.length (hiV B.length u))) (resW (hb B (lowV B.length u) B.length (hiV B.length u))) true e w' → SparseRes B u w e w' := fun e w' h => by
  unfold SparseRes spU spN spP spM spK spW spH spV spHl spWd
  simp only [hok, if_true, Int.toNat_natCast]
  exact h

set_option maxHeartbeats 1600000 in
theorem implSparse_fit (A : Option Addr) (c : Nat) (B : List Int) (u : Nat) (w : World) (hB : Lies w I A B) (hu : u ≤ 1000000) (hf : spFits B.length u = true) (hfit : fitsB B.length (lowV B.length u) = true) (hh : hiV B.length u ≤ 5000) (hn : B.length ≤ 5000) :
    Calls Tryd.prog 13 #[.slice A B.length c, .int .i64 u] w (SparseRes B u w) := by
  have C := Lib.hid fun W : World => sparseFits_any B.length u W (by omega)
  rw [hf] at C
  have HF := Lib.hid hf
  have HB := Lib.hid hB
  clear hB hf
  go_enter Tryd.func13, Tryd.ntmps13
  go_wp2_with fail
  refine (C.out _).mono ?_
  rintro e w1 ⟨rfl, rfl⟩
  have sc := (Scene.start w).box 33 SPZ
  generalize w.alloc (Obj.cells SPZ 33) = w1 at *
  clear C
  go_wp2_with fail
  refine (values_any A B.length c w1).mono ?_
  rintro e w2 ⟨rfl, rfl⟩
  replace sc := sc.box 24 #[.slice A B.length c]
  have hbs := (sc.getBox 0 rfl)
  have hbs0 := hbs.cell 0
  have hbsl := hbs.lt
  generalize w1.alloc (Obj.cells #[.slice A B.length c] 24) = w2 at *
  generalize w1.heap.size = vb at *
  clear hbs
  go_wp2_with fail
  refine (isSorted_list A c B u w2 (sc.liesOld HB.out) (by omega) vb hbsl hbs0).mono ?_
  rintro e w3 ⟨rfl, hb⟩
  replace sc := sc.step hb
  clear hb hbs0 hbsl
  cases hs : srt (u : Int) 0 B
  · have HN : Hid (spOk B u = false) := Lib.hid (by unfold spOk; rw [hs, Bool.and_false])
    obtain ⟨⟨p0, p1, p2, p3, p4, p5, p6, p7⟩, ⟨z0, z1, z2, z3, z4, z5, z6, z7⟩, hlt⟩ := box_eight (sc.getBox 1 rfl)
    have HBl := Lib.hid sc.below
    clear sc
    go_wp2
    refine bodyPost_ret (v := .tuple #[SP 0 0 0 0 0 (.slice none 0 0) 0 (.slice none 0 0), .bool false]) (by simp [results, Tryd.results13, go_sem, p0, p1, p2, p3, p4, p5, p6, p7]) rfl ?_
    refine sparse_no HN.out ?_
    have hg : w3.grownBy _ (some w.heap.size) := ((((((((grown_set w3 w.heap.size 0 (.int .i64 0)).trans (grown_set _ _ 1 (.int .i64 0))).trans (grown_set _ _ 2 (.int .i64 0))).trans (grown_set _ _ 3 (.int .i64 0))).trans (grown_set _ _ 4 (.int .i64 0))).trans (grown_set _ _ 5 (.slice none 0 0))).trans (grown_set _ _ 6 (.int .i64 0))).trans (grown_set _ _ 7 (.slice none 0 0)))
    exact HBl.out.grown hg HBl.out.size (fun j e => by cases e; exact Nat.le_refl _)
  · have hok : spOk B u = true := by unfold spOk; rw [HF.out, hs]; rfl
    have HS := Lib.hid hs
    have hsb : ∀ x ∈ B, 0 ≤ x ∧ x < 1000000 := fun x hx => by
      obtain ⟨i, hi⟩ := List.mem_iff_getElem?.1 hx
      have := srt_get hs i x hi
      omega
    have HSB := Lib.hid hsb
    have hwd := lowV_le B.length u hu
    have CL := Lib.hid fun W : World => implLow_any B.length u W hu (by omega)
    have HY := Lib.hid (sparse_yes (w := w) hok)
    clear hs hsb hok HF
    go_wp2_with fail
    refine (CL.out _).mono ?_
    rintro e w4 ⟨rfl, rfl⟩
    clear CL
    go_wp2_with fail
    refine (remainders_any A B.length c B (lowV B.length u) w3 (sc.liesOld HB.out) HSB.out (Lib.hid rfl) hn hwd).mono ?_
    rintro e w4 ⟨AR, cR, rfl, ho, hb⟩
    replace sc := sc.row hb ho
    clear hb ho
    go_wp2_with fail
    refine (implPackOf_any AR cR (rems (lowV B.length u) B) (lowV B.length u) w4 (sc.lies 0 rfl)).mono ?_
    rintro e w5 ⟨AP, cP, rfl, ho, hb⟩
    have hs4 := (sc.getBox 2 rfl).lt
    replace sc := sc.row hb ho
    have H1 := Lib.hid ho
    have hz45 := hb.size
    clear hb ho
    have hWl := poW_len (rems (lowV B.length u) B) (lowV B.length u)
    generalize poP (rems (lowV B.length u) B) (lowV B.length u) = P at *
    generalize poN (rems (lowV B.length u) B) (lowV B.length u) = M at *
    generalize poM (rems (lowV B.length u) B) (lowV B.length u) = K at *
    generalize poW (rems (lowV B.length u) B) (lowV B.length u) = Ws at *
    go_wp2_with fail
    replace sc := sc.box 31 #[.int .i64 P, .int .i64 M, .int .i64 K, .slice AP Ws.length cP]
    have HA1 : Hid (Below w5.heap.size w5 (w5.alloc (Obj.cells #[.int .i64 P, .int .i64 M, .int .i64 K, .slice AP Ws.length cP] 31))) := Lib.hid ((Below.refl _ _).alloc (Nat.le_refl _) _)
    generalize w5.alloc (Obj.cells #[.int .i64 P, .int .i64 M, .int .i64 K, .slice AP Ws.length cP] 31) = w6 at *
    refine (highList_any A B.length c B u w6 (sc.liesOld HB.out) HS.out (Lib.hid rfl) hu hh).mono ?_
    rintro e w7 ⟨AH, cH, rfl, ho, hb⟩
    replace sc := sc.row hb ho
    have HA2 := Lib.hid (below_then HA1.out hb)
    have hz56 := HA1.out.size
    obtain ⟨k1, k2⟩ := row_capS ho
    have hz67 := hb.size
    clear hb ho HA1
    rw [hb_len] at k1
    have HHl := Lib.hid (hb_len B (lowV B.length u) B.length (hiV B.length u))
    generalize hb B (lowV B.length u) B.length (hiV B.length u) = Hl at *
    go_wp2_with fail
    refine (implOf_any AH cH Hl w7 (sc.lies 0 rfl) (by have := HHl.out; omega) (by have := HHl.out; omega) k2).mono ?_
    rintro e w8 h8
    obtain ⟨A2, c2, rfl, ho, hb⟩ := newBits_of h8
    replace sc := sc.row hb ho
    have H2 := Lib.hid ho
    have HA3 := Lib.hid (below_then HA2.out hb)
    have hz78 := hb.size
    clear hb ho h8 HA2
    generalize resN Hl = H at *
    generalize resW Hl = Vs at *
    go_upto_region 6 with fail
    replace sc := sc.box 29 #[.int .i64 H, .slice A2 Vs.length c2]
    have HA4 : Hid (Below w8.heap.size w8 (w8.alloc (Obj.cells #[.int .i64 H, .slice A2 Vs.length c2] 29))) := Lib.hid ((Below.refl _ _).alloc (Nat.le_refl _) _)
    obtain ⟨h0, h1, hhl⟩ := sc.two 0 rfl
    obtain ⟨l0, l1, l2, l3, hll⟩ := sc.four 3 rfl
    obtain ⟨⟨p0, p1, p2, p3, p4, p5, p6, p7⟩, ⟨z0, z1, z2, z3, z4, z5, z6, z7⟩, hlt⟩ := box_eight (sc.getBox 7 rfl)
    have HX := Lib.hid (HA3.out.trans (HA4.out.mono HA3.out.size))
    have H3 := Lib.hid (own_low H2.out HA4.out (Nat.le_refl _))
    have HBl := Lib.hid sc.below
    have hz89 := HA4.out.size
    clear sc HA3 HA4 H2
    generalize w8.alloc (Obj.cells #[.int .i64 H, .slice A2 Vs.length c2] 29) = w9 at *
    generalize w8.heap.size = hbx at *
    have HZ : Hid (w5.heap.size ≤ w7.heap.size ∧ w7.heap.size ≤ w9.heap.size ∧ w.heap.size < w5.heap.size) := Lib.hid (by omega)
    have HH1 := Lib.hid hs4
    clear hz45 hz56 hz67 hz78 hz89 hs4 hhl hll k1 k2 hWl HHl HS HSB HB hfit hh
    go_wp2
    refine bodyPost_ret (v := .tuple #[SP u B.length P M K (.slice AP Ws.length cP) H (.slice A2 Vs.length c2), .bool true]) (by simp [results, Tryd.results13, go_sem, p0, p1, p2, p3, p4, p5, p6, p7]) rfl ?_
    have hg : w9.grownBy _ (some w.heap.size) := ((((((((grown_set w9 w.heap.size 0 (.int .i64 u)).trans (grown_set _ _ 1 (.int .i64 B.length))).trans (grown_set _ _ 2 (.int .i64 P))).trans (grown_set _ _ 3 (.int .i64 M))).trans (grown_set _ _ 4 (.int .i64 K))).trans (grown_set _ _ 5 (.slice AP Ws.length cP))).trans (grown_set _ _ 6 (.int .i64 H))).trans (grown_set _ _ 7 (.slice A2 Vs.length c2)))
    refine HY.out _ _ ?_
    exact ⟨AP, cP, A2, c2, rfl, two_end rfl H1.out HH1.out HX.out HZ.out.1 HZ.out.2.1 H3.out HZ.out.2.2 HBl.out hg⟩

theorem implSparse_any (A : Option Addr) (c : Nat) (B : List Int) (u : Int) (w : World) (hB : Lies w I A B) (hl : B.length ≤ 17592186044416) :
    Calls Tryd.prog 13 #[.slice A B.length c, .int .i64 u] w (SparseRes B u w) := by
  cases hf : spFits B.length u
  · exact implSparse_unfit A c B u w hl hf
  · obtain ⟨v, rfl, hv, h1, h2, h3⟩ := spFits_nat hf
    exact implSparse_fit A c B v w hB hv hf h1 h2 h3

end Go.Proofs.YtlbnngolcoefdaaDoor
