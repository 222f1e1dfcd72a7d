/- Drawn texts and drawn lists of symbols. -/
import Derived.Test.YtkjelakdejbolaaSfD3
import Derived.Test.YtkjelakdejbolaaDraw2
import Derived.Test.YtkjelakdejbolaaSy5
namespace Go.Proofs.Ytkjelakdejbolaa
open Go.RowKit
set_option maxRecDepth 100000

set_option maxHeartbeats 400000 in
theorem drawTextB_any (A : Option Addr) (c : Nat) (D : List Nat) (w : World) (hD : Lies w B8 A D) (hw : ∀ x ∈ D, x < 2 ^ 8) (hl : D.length ≤ 1048576) :
    Calls Try.prog 14 #[.slice A D.length c] w (NewT w) := by
  go_enter Try.func14, Try.ntmps14
  go_wp2_with fail
  refine (open_any A c D w hD hw hl).mono ?_
  rintro e w1 ⟨rfl, hc1, hb1⟩
  have HC1 := Lib.hid hc1
  have HB1 := Lib.hid hb1
  clear hc1 hb1 hD hw
  go_wp2_with fail
  refine (text_any w.heap.size A c D 0 w1 HC1.out (by omega)).mono ?_
  rintro e w2 ⟨A', c', T, rfl, hT, hT8, ho, hc2, hg2⟩
  have HF : Hid (NewT w (.returned (.slice A' T.length c')) w2) := Lib.hid ⟨A', c', T, rfl, hT, hT8, own_mono ho HB1.out.size, grown_belowG HB1.out hg2⟩
  clear hT8 ho hc2 hg2
  go_wp2
  go_ret
  exact HF.out

/-- A list of numbers was drawn: a row of the call's own. -/
def DrewY (w : World) (g : Nat) (A : Option Addr) (c : Nat) (D : List Nat) (K : Nat) (e : Ending) (w' : World) : Prop :=
  ∃ (A' : Option Addr) (c' : Nat) (L : List Int), e = .returned (.slice A' L.length c') ∧ L.length ≤ 302 ∧ w'.ownsRow w.heap.size 3 1 (.slice A' L.length c') L.length (L.map I) ∧ Cur w' g A c D K ∧ w.grownBy w' (some g)
theorem below_grown {w w' : World} (h : Below w.heap.size w w') (row : Option Nat) : w.grownBy w' row := ⟨h.os, h.tape, h.output, h.size, fun k hk _ => h.block k hk⟩
theorem drewY_set {w w' : World} {g n c' : Nat} {A : Option Addr} {c : Nat} {D : List Nat} {K K' : Nat} {gb : Nat} {L : List Int} (hn : L.length = n) (h3 : n ≤ 302) (ho : w'.ownsRow w.heap.size 3 1 (.slice (some ⟨gb, 0, none⟩) n c') n (L.map I)) (hc : Cur w' g A c D K') (hK : K' ≤ K) (hg : w.grownBy w' (some g)) :
    DrewY w g A c D K (.returned (.slice (some ⟨gb, 0, none⟩) n c')) w' := by
  subst hn
  exact ⟨_, _, L, rfl, h3, ho, hc.more hK, hg⟩
/-- A number stored into a row of the call's own: the row, the cursor, what was there before. -/
theorem store_own {w w' : World} {g n c' q : Nat} {A : Option Addr} {c : Nat} {D : List Nat} {K : Nat} {gb : Nat} {L : List Int} (ho : w'.ownsRow w.heap.size 3 1 (.slice (some ⟨gb, 0, none⟩) n c') n (L.map I)) (hc : Cur w' g A c D K) (hg : w.grownBy w' (some g)) (h0 : Cur w g A c D K) (v : Int) :
    (w'.setCell ⟨gb, q, none⟩ (I v)).ownsRow w.heap.size 3 1 (.slice (some ⟨gb, 0, none⟩) n c') n ((L.set q v).map I) ∧ Cur (w'.setCell ⟨gb, q, none⟩ (I v)) g A c D K ∧ w.grownBy (w'.setCell ⟨gb, q, none⟩ (I v)) (some g) := by
  have hb := (ho.lt gb rfl).1
  have h1 := (ho.stored q (I v)).1
  rw [List.map_set]
  refine ⟨h1, hc.push h0.lies h0.lt (grownBy_setCell w' gb q (I v)) (fun j hj => by cases hj; exact hb), grown_pastG hg (grownBy_setCell w' gb q (I v)) (fun j hj => by cases hj; exact hb)⟩

set_option maxHeartbeats 4000000 in
theorem syms_any (g : Nat) (A : Option Addr) (c : Nat) (D : List Nat) (K : Nat) (w : World) (h : Cur w g A c D K) (hK : K ≤ 4611686018427370000) :
    Calls Try.prog 49 #[.pointer (some ⟨g, 0, none⟩)] w (DrewY w g A c D (K + 300)) := by
  have hgl := h.lt
  have H0 := Lib.hid h
  go_enter Try.func49, Try.ntmps49
  go_wp2_with fail
  refine (textOf_any g A c D K 30 w h (by omega) (by omega) (by omega)).mono ?_
  rintro e w1 ⟨At, ct, T, rfl, hT, hT8, ho1, hc1, hg1⟩
  have HBw := Lib.hid (specBwt_in At T.length ct T w1 (Lies.of_own ho1) (own_tidy ho1) hT8 (Lib.hid rfl) (by omega) (row_cap ho1).1)
  have HC1 := Lib.hid hc1
  have HG1 := Lib.hid hg1
  clear hc1 hg1 h ho1 hT8
  go_wp2_with fail
  refine HBw.out.mono ?_
  rintro e w2 ⟨Ab, cb, rfl, ho2, hb2⟩
  obtain ⟨n, hn⟩ : ∃ n, (bwtL T).length = n := ⟨_, rfl⟩
  have hn1 : 1 ≤ n ∧ n ≤ 31 := by rw [← hn, bwtL_len]; omega
  rw [hn] at ho2 ⊢
  obtain ⟨B, hB⟩ : ∃ B, bwtL T = B := ⟨_, rfl⟩
  rw [hB] at ho2 hn
  obtain ⟨gb, cap, hv, _, hgbl⟩ := ho2.form (by omega)
  injection hv with e1 e2 e3
  subst e1
  have Hn := Lib.hid hn
  have HO2 : Hid (w2.ownsRow w.heap.size 3 1 (.slice (some ⟨gb, 0, none⟩) n cb) n (B.map I)) := Lib.hid (own_mono ho2 HG1.out.size)
  have HC2 : Hid (Cur w2 g A c D (K + 200)) := Lib.hid (HC1.out.below hb2)
  have HG2 : Hid (w.grownBy w2 (some g)) := Lib.hid (HG1.out.trans (below_grown hb2 _))
  clear ho2 hb2 HBw hn hB hgbl e3 hT HC1 HG1
  go_wp2_with fail
  refine (pick_any g A c D (K + 200) 8 w2 HC2.out (by omega) (by omega)).mono ?_
  rintro e w3 ⟨r, rfl, hr, _, hc3, hg3⟩
  have hr8 : (r : Int) < 8 := hr (by omega)
  have HO3 := Lib.hid (own_pastG HO2.out hg3 hgl)
  have HC3 := Lib.hid hc3
  have HG3 : Hid (w.grownBy w3 (some g)) := Lib.hid (HG2.out.trans hg3)
  clear hr hc3 hg3 HO2 HC2 HG2
  by_cases h0 : r = 0
  · subst h0
    go_wp2_with fail
    refine (pick_any g A c D (K + 200 + 1) n w3 HC3.out (by omega) (by omega)).mono ?_
    rintro e w4 ⟨q, rfl, hq1, hq2, hc4, hg4⟩
    have hqn : q < n := by
      by_cases h2 : 2 ≤ (n : Int)
      · have := hq1 h2; omega
      · have := hq2 (by omega); omega
    have HO4 := Lib.hid (own_pastG HO3.out hg4 hgl)
    have HC4 := Lib.hid hc4
    have HG4 : Hid (w.grownBy w4 (some g)) := Lib.hid (HG3.out.trans hg4)
    clear hq1 hq2 hc4 hg4 HO3 HC3 HG3
    go_wp2_with fail
    refine (raw_any g A c D (K + 200 + 1 + 1) w4 HC4.out (by omega)).mono ?_
    rintro e w5 ⟨v, rfl, _, hc5, hg5⟩
    have HO5 := Lib.hid (own_pastG HO4.out hg5 hgl)
    have HC5 := Lib.hid hc5
    have HG5 : Hid (w.grownBy w5 (some g)) := Lib.hid (HG4.out.trans hg5)
    clear hc5 hg5 HO4 HC4 HG4
    have hgl5 := HC5.out.lt
    have HA := Lib.hid (Box.made w5 3 #[Value.int .i64 v, .int .i64 0, .int .i64 256, .int .i64 98])
    have HC6 := Lib.hid (cur_alloc HC5.out (Obj.cells #[Value.int .i64 v, .int .i64 0, .int .i64 256, .int .i64 98] 3))
    have HO6 := Lib.hid (HO5.out.alloc (Obj.cells #[Value.int .i64 v, .int .i64 0, .int .i64 256, .int .i64 98] 3))
    have HG6 : Hid (w.grownBy (w5.alloc (Obj.cells #[Value.int .i64 v, .int .i64 0, .int .i64 256, .int .i64 98] 3)) (some g)) := Lib.hid (HG5.out.trans (World.grownBy_alloc _ _ _))
    obtain ⟨ga, hga⟩ : ∃ ga, w5.heap.size = ga := ⟨_, rfl⟩
    go_wp2_with fail
    refine (pick_any g A c D (K + 200 + 1 + 1 + 2) 4 _ HC6.out (by omega) (by omega)).mono ?_
    rintro e w6 ⟨j, rfl, hj, _, hc6, hg6⟩
    have hj4 : j < 4 := by have := hj (by omega); omega
    have hbx : Box w6 ga 3 ([v, 0, 256, 98].map I).toArray := by
      have := box_kept HA.out hg6 (by omega)
      rw [hga] at this
      exact this
    obtain ⟨z, _, hz⟩ := table_at hbx (i := j) hj4
    have HO7 := Lib.hid (own_pastG HO6.out hg6 hgl)
    have HG7 : Hid (w.grownBy w6 (some g)) := Lib.hid (HG6.out.trans hg6)
    have hS := store_own (q := q) HO7.out hc6 HG7.out (H0.out.more (by omega)) z
    have HF : Hid (DrewY w g A c D (K + 300) (.returned (.slice (some ⟨gb, 0, none⟩) n cb)) (w6.setCell ⟨gb, q, none⟩ (I z))) := Lib.hid (drewY_set (L := B.set q z) (by rw [List.length_set]; exact Hn.out) (by omega) hS.1 hS.2.1 (by omega) hS.2.2)
    obtain ⟨y, hy⟩ : ∃ y, (B.map I)[q]? = some y := ⟨_, List.getElem?_eq_getElem (by rw [List.length_map, Hn.out]; exact hqn)⟩
    have hd : w6.cell? ⟨gb, q, none⟩ = some y := (HO7.out.cellAt q (by omega)).trans hy
    have hf := HO7.out.frozenAt q
    have hqn2 : (q : Int) < (n : Int) := by omega
    have hj4i : (j : Int) < 4 := by omega
    clear hbx hc6 hg6 hj hy hS HA HC6 HO6 HG6 HO5 HC5 HG5 HO7 HG7 hga
    go_wp2
    go_ret
    exact HF.out
  · have r0 : ((r : Int) == 0) = false := by rw [beq_eq_false_iff_ne]; omega
    have HF3 : Hid (DrewY w g A c D (K + 300) (.returned (.slice (some ⟨gb, 0, none⟩) n cb)) w3) := Lib.hid (drewY_set Hn.out (by omega) HO3.out HC3.out (by omega) HG3.out)
    by_cases h1 : r = 1
    · subst h1
      by_cases hn2 : 1 < n
      · obtain ⟨m, hm⟩ : ∃ m, n = m + 1 := ⟨n - 1, by omega⟩
        have hmi : IntKind.i64.wrap ((n : Int) - 1) = (m : Int) := by rw [IntWalk.i64_in _ (by omega)]; omega
        have hmi2 : (n : Int) - 1 = (m : Int) := by omega
        have hmi3 : IntKind.i64.wrap (m : Int) = (m : Int) := IntWalk.i64_in _ (by omega)
        have Hm := Lib.hid hm
        clear hm
        go_wp2_with fail
        refine (pick_any g A c D (K + 200 + 1) m w3 HC3.out (by omega) (by omega)).mono ?_
        rintro e w4 ⟨q, rfl, hq1, hq2, hc4, hg4⟩
        have hqm : q < m := by
          have := Hm.out
          by_cases h2 : 2 ≤ (m : Int)
          · have := hq1 h2; omega
          · have := hq2 (by omega); omega
        have HO4 := Lib.hid (own_pastG HO3.out hg4 hgl)
        have HG4 : Hid (w.grownBy w4 (some g)) := Lib.hid (HG3.out.trans hg4)
        obtain ⟨p, hp⟩ : ∃ p, q + 1 = p := ⟨_, rfl⟩
        have hqi : IntKind.i64.wrap ((q : Int) + 1) = (p : Int) := by rw [IntWalk.i64_in _ (by have := Hm.out; omega)]; omega
        have hqi2 : (q : Int) + 1 = (p : Int) := by omega
        have hqn : q < n := by have := Hm.out; omega
        have hpn : p < n := by have := Hm.out; omega
        have hqn2 : (q : Int) < (n : Int) := by omega
        have hpn2 : (p : Int) < (n : Int) := by omega
        obtain ⟨x, hx⟩ : ∃ x, B[q]? = some x := ⟨_, List.getElem?_eq_getElem (by rw [Hn.out]; exact hqn)⟩
        obtain ⟨y, hy⟩ : ∃ y, B[p]? = some y := ⟨_, List.getElem?_eq_getElem (by rw [Hn.out]; exact hpn)⟩
        have hd1 : w4.cell? ⟨gb, q, none⟩ = some (I x) := (HO4.out.cellAt q (by omega)).trans (by rw [List.getElem?_map, hx]; rfl)
        have hd2 : w4.cell? ⟨gb, p, none⟩ = some (I y) := (HO4.out.cellAt p (by omega)).trans (by rw [List.getElem?_map, hy]; rfl)
        have hf1 := HO4.out.frozenAt q
        have hS := store_own (q := q) HO4.out hc4 HG4.out (H0.out.more (by omega)) y
        have hf2 := hS.1.frozenAt p
        obtain ⟨u, hu⟩ : ∃ u, ((B.set q y).map I)[p]? = some u := ⟨_, List.getElem?_eq_getElem (by rw [List.length_map, List.length_set, Hn.out]; exact hpn)⟩
        have hd3 : (w4.setCell ⟨gb, q, none⟩ (I y)).cell? ⟨gb, p, none⟩ = some u := (hS.1.cellAt p (by omega)).trans hu
        have hS2 := store_own (q := p) hS.1 hS.2.1 hS.2.2 (H0.out.more (by omega)) x
        have HF : Hid (DrewY w g A c D (K + 300) (.returned (.slice (some ⟨gb, 0, none⟩) n cb)) ((w4.setCell ⟨gb, q, none⟩ (I y)).setCell ⟨gb, p, none⟩ (I x))) := Lib.hid (drewY_set (L := (B.set q y).set p x) (by rw [List.length_set, List.length_set]; exact Hn.out) (by omega) hS2.1 hS2.2.1 (by omega) hS2.2.2)
        clear hS hS2 hq1 hq2 hc4 hg4 hx hy hu hp HO3 HC3 HG3 HF3 HO4 HG4 hmi hmi2 hmi3
        go_wp2
        go_ret
        exact HF.out
      · have hd : decide ((1 : Int) < (n : Int)) = false := by simp; omega
        go_wp2
        go_ret
        exact HF3.out
    · have r1 : ((r : Int) == 1) = false := by rw [beq_eq_false_iff_ne]; omega
      by_cases h2 : r = 2
      · subst h2
        go_wp2_with fail
        refine (onceN_any g A c D (K + 200 + 1) 5 w3 HC3.out (by omega) (by omega)).mono ?_
        rintro e w4 ⟨b, rfl, hc4, hg4⟩
        have HO4 := Lib.hid (own_pastG HO3.out hg4 hgl)
        have HC4 := Lib.hid hc4
        have HG4 : Hid (w.grownBy w4 (some g)) := Lib.hid (HG3.out.trans hg4)
        clear hc4 hg4 HO3 HC3 HG3 HF3
        cases b
        · have HF : Hid (DrewY w g A c D (K + 300) (.returned (.slice (some ⟨gb, 0, none⟩) n cb)) w4) := Lib.hid (drewY_set Hn.out (by omega) HO4.out HC4.out (by omega) HG4.out)
          go_wp2
          go_ret
          exact HF.out
        · go_wp2_with fail
          refine (pick_any g A c D (K + 200 + 1 + 1) 2 w4 HC4.out (by omega) (by omega)).mono ?_
          rintro e w5 ⟨q, rfl, hq, _, hc5, hg5⟩
          have hq2 : q < 2 := by have := hq (by omega); omega
          obtain ⟨m, hm⟩ : ∃ m, 301 + q = m := ⟨_, rfl⟩
          have hm2 : 301 + (q : Int) = (m : Int) := by omega
          have hm3 : IntKind.i64.wrap (301 + (q : Int)) = (m : Int) := by rw [IntWalk.i64_in _ (by omega)]; omega
          have hmk := fun W => run_make_row' (P := Try.prog) 25 3 (.int .i64 0) 8 Try.underlying25 Try.infoInt rfl .i64 .i64 m (by omega) (by omega) W
          have HF : Hid (DrewY w g A c D (K + 300) (.returned (.slice (some ⟨w5.heap.size, 0, none⟩) m m)) (w5.alloc (.cells (madeCells #[Value.int .i64 0] m) 3))) := Lib.hid (by
            have e : (List.replicate m (0 : Int)).map I = List.replicate m (I 0) := by simp
            have h2 := World.ownsRow_lit w5 (e := 3) (size := 1) (madeCells #[Value.int .i64 0] m) m (Nat.le_refl _) (by unfold maxLen; omega) (by simp [size_madeCells])
            rw [toList_madeCells_one, ← e] at h2
            exact drewY_set (by simp) (by omega) (own_mono h2 (Nat.le_trans HG4.out.size hg5.size)) (cur_alloc hc5 _) (by omega) ((HG4.out.trans hg5).trans (World.grownBy_alloc _ _ _)))
          clear hc5 hg5 hq hm
          go_wp2
          go_ret
          exact HF.out
      · have r2 : ((r : Int) == 2) = false := by rw [beq_eq_false_iff_ne]; omega
        go_wp2
        go_ret
        exact HF3.out

/-- A new list of numbers, as long as any that symbols are drawn. -/
def NewY (w : World) (e : Ending) (w' : World) : Prop :=
  ∃ (A' : Option Addr) (c' : Nat) (L : List Int), e = .returned (.slice A' L.length c') ∧ L.length ≤ 302 ∧ w'.ownsRow w.heap.size 3 1 (.slice A' L.length c') L.length (L.map I) ∧ Below w.heap.size w w'

set_option maxHeartbeats 400000 in
theorem drawLf_any (A : Option Addr) (c : Nat) (D : List Nat) (w : World) (hD : Lies w B8 A D) (hw : ∀ x ∈ D, x < 2 ^ 8) (hl : D.length ≤ 1048576) :
    Calls Try.prog 25 #[.slice A D.length c] w (NewY w) := by
  go_enter Try.func25, Try.ntmps25
  go_wp2_with fail
  refine (open_any A c D w hD hw hl).mono ?_
  rintro e w1 ⟨rfl, hc1, hb1⟩
  have HC1 := Lib.hid hc1
  have HB1 := Lib.hid hb1
  clear hc1 hb1 hD hw
  go_wp2_with fail
  refine (syms_any w.heap.size A c D 0 w1 HC1.out (by omega)).mono ?_
  rintro e w2 ⟨A', c', L, rfl, hL, ho, hc2, hg2⟩
  have HF : Hid (NewY w (.returned (.slice A' L.length c')) w2) := Lib.hid ⟨A', c', L, rfl, hL, own_mono ho HB1.out.size, grown_belowG HB1.out hg2⟩
  clear ho hc2 hg2
  go_wp2
  go_ret
  exact HF.out

end Go.Proofs.Ytkjelakdejbolaa
