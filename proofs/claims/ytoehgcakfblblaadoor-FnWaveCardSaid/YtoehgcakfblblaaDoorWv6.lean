import Derived.Test.YtoehgcakfblblaaDoorLv4
import Derived.Test.YtoehgcakfblblaaDoorWvQ
/- matrixOf walked. -/
namespace Go.Proofs.YtoehgcakfblblaaDoor
open Go.RowKit
set_option maxRecDepth 100000

/-- What matrixOf returns. -/
def MtxEnd (w : World) (a : WaA) (e : Ending) (w' : World) : Prop := e = .returned (.tuple #[.agg a.cells, .bool a.ok]) ∧ Below w.heap.size w w'

theorem Tryd.zeroMtx (W : World) : (zeroValue 57).run Tryd.prog W = .ok (.agg zeroM) W := by kernel_rfl
theorem Tryd.buildMtx0 (W : World) : (Instr.build 57 #[]).run Tryd.prog W = .ok (.agg zeroM) W := by kernel_rfl
theorem Tryd.buildMtx1 (n : Int) (W : World) : (Instr.build 57 #[(1, .int .i64 n)]).run Tryd.prog W = .ok (.agg (zeroM.setIfInBounds 27 (.int .i64 n))) W := by kernel_rfl

/-- What holds while the levels are looked at. -/
structure MtxInv (w : World) (a : WaA) (n k : Nat) (W : World) : Prop where
  below : Below w.heap.size w W
  arg : Box W w.heap.size 28 #[.int .i64 n, .slice a.ZA 9 a.zc, .slice a.LA 9 a.lc]
  res : Box W (w.heap.size + 1) 57 zeroM
  mat : Box W (w.heap.size + 2) 57 (mcs n a.P k)
theorem MtxInv.more {w : World} {a : WaA} {n k : Nat} {W W' : World} (h : MtxInv w a n k W) (hb : Below W.heap.size W W') : MtxInv w a n k W' :=
  ⟨below_then h.below hb, h.arg.below hb h.arg.lt, h.res.below hb h.res.lt, h.mat.below hb h.mat.lt⟩

theorem res_run (tmps : Array Value) (W : World) (g : Nat) (cs : Array Value) (b : Bool) (h2 : tmps[2]? = some (.pointer (some ⟨g, 0, none⟩))) (h3 : tmps[3]? = some (.bool b)) (hx : Box W g 57 cs) (hs : cs.size = 28) :
    (results Tryd.f27 tmps).run Tryd.prog W = .ok (.tuple #[.agg cs, .bool b]) W := by
  have hr := run_loadVar_row (P := Tryd.prog) W g 57 57 cs (0, 0) _ hx Tryd.underlying57 rfl (by rw [hs]; exact Tryd.infoMtx)
  simp [results, Tryd.results27, h2, h3, asAddr, hr]

set_option maxHeartbeats 3200000 in
theorem matrixOf_in (n : Nat) (ZA : Option Addr) (zc : Nat) (Z : List Int) (LA : Option Addr) (lc : Nat) (P : List LvA) (w : World) (hL : LiesWa w ⟨n, ZA, zc, Z, LA, lc, P⟩) (hn : n ≤ 1000) (h2 : Hid (P.length = 9)) (h3 : Hid (Z.length = 9)) :
    Calls Tryd.prog 27 #[.agg #[.int .i64 n, .slice ZA 9 zc, .slice LA 9 lc]] w (MtxEnd w ⟨n, ZA, zc, Z, LA, lc, P⟩) := by
  have HL := Lib.hid hL
  have t0 : decide ((n : Int) < 0) = false := by simp
  have t1 : decide ((1000 : Int) < (n : Int)) = false := by simp; omega
  have H0 : Hid (MtxInv w ⟨n, ZA, zc, Z, LA, lc, P⟩ n 0 ((((w.alloc (.cells #[.int .i64 n, .slice ZA 9 zc, .slice LA 9 lc] 28)).alloc (.cells zeroM 57)).alloc (.cells zeroM 57)).setRow (w.heap.size + 2) (zeroM.setIfInBounds 27 (.int .i64 n)))) := Lib.hid (by
    have hb1 := Box.made w 28 #[.int .i64 n, .slice ZA 9 zc, .slice LA 9 lc]
    have hb2 := Box.made (w.alloc (.cells #[.int .i64 n, .slice ZA 9 zc, .slice LA 9 lc] 28)) 57 zeroM
    have hb3 := Box.made ((w.alloc (.cells #[.int .i64 n, .slice ZA 9 zc, .slice LA 9 lc] 28)).alloc (.cells zeroM 57)) 57 zeroM
    rw [World.size_alloc] at hb2 hb3
    rw [World.size_alloc] at hb3
    refine ⟨below_setRow (by go_grown) (by omega) _, ((hb1.alloc _).alloc _).offRow (by omega) _, (hb2.alloc _).offRow (by omega) _, ?_⟩
    rw [mcs_zero]
    exact hb3.row _)
  have hg0 : (((w.alloc (.cells #[.int .i64 n, .slice ZA 9 zc, .slice LA 9 lc] 28)).alloc (.cells zeroM 57)).alloc (.cells zeroM 57)).heap[w.heap.size + 2]? = some (.cells zeroM 57 (0, 0)) := by
    have hb3 := Box.made ((w.alloc (.cells #[.int .i64 n, .slice ZA 9 zc, .slice LA 9 lc] 28)).alloc (.cells zeroM 57)) 57 zeroM
    rw [World.size_alloc, World.size_alloc] at hb3
    exact hb3
  obtain ⟨m0, hm0⟩ : ∃ m0, m0 = zeroM.setIfInBounds 27 (.int .i64 n) := ⟨_, rfl⟩
  have hb1 : ∀ W, (Instr.build 57 #[(1, .int .i64 n)]).run Tryd.prog W = .ok (.agg m0) W := by rw [hm0]; exact Tryd.buildMtx1 n
  have hs0 : (Tryd.prog.info? 57).map (·.size) = some m0.size := by rw [hm0]; exact Tryd.infoMtx
  have hz0 : zeroM.size = m0.size := by rw [hm0]; rfl
  have ho0 : m0.all (·.oneCell') = true := by rw [hm0, ← mcs_zero n P]; exact mcs_one n P 0
  rw [← hm0] at H0
  have hbz := Tryd.buildMtx0
  have hzz := Tryd.zeroMtx
  clear hL hm0
  generalize hZM : zeroM = ZM at *
  go_enter Tryd.func27, Tryd.ntmps27
  go_wp2_with (first | (refine wpList_alloc_agg rfl 57 ZM rfl hzz ?_) | (refine wpList_build_one rfl 57 1 _ rfl (.int .i64 n) rfl m0 hb1 ?_) | ((with_reducible show wpList _ _ _ (⟨none, .store 57 _ _, _, _, _, _⟩ :: _) _ _); with_reducible refine Hid.out ?_))
  refine Lib.hid ?_
  refine wpList_store_row (by rfl) 57 _ _ (by rfl) (w.heap.size + 2) m0 (by rfl) (by rfl) 57 ZM hg0 hs0 hz0 ho0 ?_
  have hZs : ZM.size = 28 := by rw [← hZM]; rfl
  have hZi : (Tryd.prog.info? 57).map (·.size) = some ZM.size := by rw [hZs]; exact Tryd.infoMtx
  have hZo : ZM.all (·.oneCell') = true := by rw [← hZM]; exact zeroM_one
  have HZM := Lib.hid hZM
  have hcA := H0.out.arg.cell 2
  have hlA := H0.out.arg.lt
  clear hZM hg0 hb1 hs0 hz0 ho0 hzz
  generalize ((((w.alloc (.cells #[.int .i64 n, .slice ZA 9 zc, .slice LA 9 lc] 28)).alloc (.cells ZM 57)).alloc (.cells ZM 57)).setRow (w.heap.size + 2) m0) = W0 at *
  go_wp2
  clear hcA hlA
  go_loopw [34] (fun i wr => ∃ k : Nat, k ≤ 9 ∧ i = .int .i64 k ∧ Hid (MtxInv w ⟨n, ZA, zc, Z, LA, lc, P⟩ n k wr) ∧ Hid (∀ (j : Nat) v z, j < k → (P.map LvA.val)[j]? = some v → Z[j]? = some z → lvB n v z = true)) (fun i _ => 9 - (intOf i).toNat)
  case atStart => exact ⟨0, Nat.zero_le _, rfl, H0, Lib.hid fun j v z h => by omega⟩
  case round =>
    obtain ⟨k, hk, rfl, HI, HV⟩ := hrel
    clear H0
    by_cases hlt : k < 9
    · obtain ⟨p, hp⟩ : ∃ p, P[k]? = some p := ⟨P[k]'(by rw [h2.out]; exact hlt), List.getElem?_eq_getElem _⟩
      obtain ⟨z, hz⟩ : ∃ z, Z[k]? = some z := ⟨Z[k]'(by rw [h3.out]; exact hlt), List.getElem?_eq_getElem _⟩
      obtain ⟨⟨b, o, hLA, hbl, hc0, hc1⟩, hpl, hpt, hpb⟩ := (HL.out.lev.below HI.out.below) k p hp
      obtain ⟨bz, oz, hZA, hbz2, hcz⟩ := (HL.out.zer.below HI.out.below) k z hz
      simp only at hLA hZA hc1
      subst hLA hZA
      have HP := Lib.hid hp
      have HZ := Lib.hid hz
      have HPl := Lib.hid hpl
      have HPb := Lib.hid hpb
      have HPt := Lib.hid hpt
      have HBw := Lib.hid HI.out.below
      have HI6 := Lib.hid (HI.out.more ((Below.refl wr.heap.size wr).alloc (Nat.le_refl _) (.cells #[.int .i64 p.K, p.body] 46)))
      have KS : Hid (∀ W, Below (wr.alloc (.cells #[.int .i64 p.K, p.body] 46)).heap.size (wr.alloc (.cells #[.int .i64 p.K, p.body] 46)) W → W.cell? ⟨wr.heap.size, 0, none⟩ = some (.int .i64 p.K) ∧ W.cell? ⟨wr.heap.size, 1, none⟩ = some (.slice p.A p.L.length p.c) ∧ W.cell? ⟨w.heap.size, 0, none⟩ = some (.int .i64 n) ∧ W.cell? ⟨w.heap.size, 1, none⟩ = some (.slice (some ⟨bz, oz, none⟩) 9 zc) ∧ W.cell? ⟨bz, oz + k, none⟩ = some (.int .i64 z)) := Lib.hid fun W hW => by
        have hb := Box.made wr 46 #[.int .i64 p.K, p.body]
        have hb' := hb.below hW hb.lt
        have ha := (HI6.out.more hW).arg
        refine ⟨hb'.cell 0, hb'.cell 1, ha.cell 0, ha.cell 1, ?_⟩
        exact (hW.cell (p := ⟨bz, oz + k, none⟩) (by rw [World.size_alloc]; show bz < _; omega)).trans ((((Below.refl wr.heap.size wr).alloc (Nat.le_refl _) (.cells #[.int .i64 p.K, p.body] 46)).cell (p := ⟨bz, oz + k, none⟩) hbz2).trans hcz)
      have k9 : (k : Int) < 9 := by omega
      unfold LvA.body at *
      go_wp2_with fail
      clear hc0 hc1 hcz hpl hpt hpb hbl hbz2 hp hz
      have CO := Lib.hid fun (W : World) (hW : Below (wr.alloc (.cells #[.int .i64 p.K, .slice p.A p.L.length p.c] 46)).heap.size (wr.alloc (.cells #[.int .i64 p.K, .slice p.A p.L.length p.c] 46)) W) => (implOk_any p.K p.A p.c p.L W ((HPl.out.below ((Below.refl _ _).alloc (Nat.le_refl _) _)).below hW) HPb.out).mono fun _ _ h => (⟨h.1, below_then hW h.2⟩ : _ ∧ Below (wr.alloc (.cells #[.int .i64 p.K, .slice p.A p.L.length p.c] 46)).heap.size (wr.alloc (.cells #[.int .i64 p.K, .slice p.A p.L.length p.c] 46)) _)
      have CR := Lib.hid fun (W : World) (hW : Below (wr.alloc (.cells #[.int .i64 p.K, .slice p.A p.L.length p.c] 46)).heap.size (wr.alloc (.cells #[.int .i64 p.K, .slice p.A p.L.length p.c] 46)) W) => (implRank_any p.K p.A p.c p.L 0 p.K W ((HPl.out.below ((Below.refl _ _).alloc (Nat.le_refl _) _)).below hW) HPb.out HPt.out.1 HPt.out.2).mono fun _ _ h => (⟨h.1, below_then hW h.2⟩ : _ ∧ Below (wr.alloc (.cells #[.int .i64 p.K, .slice p.A p.L.length p.c] 46)).heap.size (wr.alloc (.cells #[.int .i64 p.K, .slice p.A p.L.length p.c] 46)) _)
      generalize wr.alloc (.cells #[.int .i64 p.K, .slice p.A p.L.length p.c] 46) = W6 at *
      have x0 : ∀ q : BW W6, q.val.cell? ⟨wr.heap.size, 0, none⟩ = some (.int .i64 p.K) := fun q => (KS.out _ q.ok).1
      have x1 : ∀ q : BW W6, q.val.cell? ⟨wr.heap.size, 1, none⟩ = some (.slice p.A p.L.length p.c) := fun q => (KS.out _ q.ok).2.1
      have x2 : ∀ q : BW W6, q.val.cell? ⟨w.heap.size, 0, none⟩ = some (.int .i64 n) := fun q => (KS.out _ q.ok).2.2.1
      have x3 : ∀ q : BW W6, q.val.cell? ⟨w.heap.size, 1, none⟩ = some (.slice (some ⟨bz, oz, none⟩) 9 zc) := fun q => (KS.out _ q.ok).2.2.2.1
      have x4 : ∀ q : BW W6, q.val.cell? ⟨bz, oz + k, none⟩ = some (.int .i64 z) := fun q => (KS.out _ q.ok).2.2.2.2
      have HVv : Hid ((P.map LvA.val)[k]? = some p.val) := Lib.hid (by rw [List.getElem?_map, HP.out]; rfl)
      have hk0 : (0 : Int) ≤ (k : Int) := by omega
      by_cases hK : p.K = (n : Int)
      · have tk : (p.K != (n : Int)) = false := by simpa using hK
        have HK := Lib.hid hK
        clear hK
        cases hok : okB p.K p.L
        · have HNo : Hid (WaA.ok ⟨n, some ⟨bz, oz, none⟩, zc, Z, some ⟨b, o, none⟩, lc, P⟩ = false) := Lib.hid (wvOk_no HVv.out HZ.out (show lvB (n : Int) p.val z = false by unfold lvB; rw [← HK.out]; show (_ && okB p.K p.L && _) = false; rw [hok]; simp))
          rw [hok] at CO
          clear hok
          refine wp_region_bw (by kernel_rfl) (by kernel_rfl) W6 (Below.refl _ _) ?_
          repeat (go_big_quiet_step (first | (go_at_call 39; exact Calls.bw (CO.out _ (BW.ok _)))))
          refine wpQuiet_nil ?_
          rintro W7 ⟨q7, hq7⟩
          have inv := q7.ok
          rw [← hq7] at inv
          clear hq7 q7
          have HI7 := Lib.hid (HI6.out.more inv)
          clear x0 x1 x2 x3 x4 CO CR KS tk k9 inv
          go_wp2_with (first | (refine wpList_build_none rfl 57 (by rfl) ZM hbz ?_) | ((with_reducible show wpList _ _ _ (⟨none, .store 57 _ _, _, _, _, _⟩ :: _) _ _); with_reducible refine Hid.out ?_))
          refine Lib.hid ?_
          refine wpList_store_row (by rfl) 57 _ _ (by rfl) (w.heap.size + 1) ZM (by rfl) (by rfl) 57 ZM (by rw [← HZM.out]; exact HI7.out.res) hZi rfl hZo ?_
          have hxr := (show Box W7 (w.heap.size + 1) 57 ZM by rw [← HZM.out]; exact HI7.out.res).row ZM
          have HBr : Hid (Below w.heap.size w (W7.setRow (w.heap.size + 1) ZM)) := Lib.hid (below_setRow HI7.out.below (by omega) _)
          generalize W7.setRow (w.heap.size + 1) ZM = W8 at *
          go_wp2
          refine bodyPost_ret (v := .tuple #[.agg ZM, .bool false]) (res_run _ _ (w.heap.size + 1) ZM false (by rfl) (by rfl) hxr hZs) rfl ?_
          refine ⟨?_, HBr.out⟩
          unfold WaA.cells
          rw [HNo.out, if_neg (by simp), HZM.out]
        · rw [hok] at CO
          have hrv : rankV p.K p.L 0 p.K = (cnt p.L 0 n : Int) := by
            unfold rankV
            rw [if_pos ⟨hok, .inl rfl, by rw [HK.out]; omega, Int.le_refl _⟩, HK.out, Int.toNat_natCast]
          rw [hrv] at CR
          have HOk := Lib.hid hok
          clear hok hrv
          obtain ⟨c, hc⟩ : ∃ c, cnt p.L 0 n = c := ⟨_, rfl⟩
          have HC := Lib.hid hc
          rw [hc] at CR
          clear hc
          by_cases hzc : z = (c : Int)
          · have tz : (z != (c : Int)) = false := by simpa using hzc
            have HY : Hid (lvB (n : Int) p.val z = true) := Lib.hid (by
              unfold lvB
              show (decide (p.K = (n : Int)) && okB (n : Int) p.L && decide (z = (cnt p.L 0 (n : Int).toNat : Int))) = true
              rw [decide_eq_true HK.out, ← HK.out, HOk.out, HK.out, Int.toNat_natCast, HC.out, decide_eq_true hzc]
              rfl)
            have HZc := Lib.hid hzc
            clear hzc
            refine wp_region_bw (by kernel_rfl) (by kernel_rfl) W6 (Below.refl _ _) ?_
            repeat (go_big_quiet_step (first | (go_at_call 39; exact Calls.bw (CO.out _ (BW.ok _))) | (go_at_call 26; exact Calls.bw (CR.out _ (BW.ok _)))))
            refine wpQuiet_nil ?_
            rintro W7 ⟨q7, hq7⟩
            have inv := q7.ok
            rw [← hq7] at inv
            clear hq7 q7
            have HI7 := Lib.hid (HI6.out.more inv)
            clear CO CR tk tz
            have y0 := KS.out _ inv
            obtain ⟨y0, y1, y2, y3, y4⟩ := y0
            have hm := HI7.out.mat
            have hml := hm.lt
            have z0 := hm.frozen (k * 3)
            have z1 := hm.frozen (k * 3 + 1)
            have z2 := hm.frozen (k * 3 + 2)
            have v0 := (hm.cell (k * 3)).trans (mcs_get n P k (k * 3) (by omega))
            have v1 := (hm.cell (k * 3 + 1)).trans (mcs_get n P k (k * 3 + 1) (by omega))
            have v2 := (hm.cell (k * 3 + 2)).trans (mcs_get n P k (k * 3 + 2) (by omega))
            generalize mcell n P k (k * 3) = q0 at *
            generalize mcell n P k (k * 3 + 1) = q1 at *
            generalize mcell n P k (k * 3 + 2) = q2 at *
            clear hm x0 x1 x2 x3 x4 KS inv
            have HN : Hid (MtxInv w ⟨n, some ⟨bz, oz, none⟩, zc, Z, some ⟨b, o, none⟩, lc, P⟩ n (k + 1) (((W7.setCell ⟨w.heap.size + 1 + 1, k * 3, none⟩ (.int .i64 p.K)).setCell ⟨w.heap.size + 1 + 1, k * 3 + 1, none⟩ (.slice p.A p.L.length p.c)).setCell ⟨w.heap.size + 1 + 1, k * 3 + 2, none⟩ (.int .i64 z)).drew) := Lib.hid (by
              have h := HI7.out
              refine ⟨(((h.below.setCell (by simp; omega) _).setCell (by simp; omega) _).setCell (by simp; omega) _).drew, ((h.arg.off (by dsimp only; omega) _).off (by dsimp only; omega) _).off (by dsimp only; omega) _, ((h.res.off (by dsimp only; omega) _).off (by dsimp only; omega) _).off (by dsimp only; omega) _, ?_⟩
              have hp3 := ((h.mat.put (k * 3) (.int .i64 p.K)).put (k * 3 + 1) (.slice p.A p.L.length p.c)).put (k * 3 + 2) (.int .i64 z)
              have hput := mcs_put n P k p HP.out (by omega)
              unfold LvA.body at hput
              rw [HK.out, HZc.out, ← HC.out] at hp3
              rw [hput] at hp3
              rw [HK.out, HZc.out, ← HC.out]
              exact hp3)
            go_wp2_with fail
            go_still_tail 10, (by kernel_rfl)
            change wpList _ _ _ _ _ W7.drew
            go_wp2
            go_roundw
            case rel =>
              refine ⟨k + 1, by omega, by go_num, HN, Lib.hid fun j v z' hj hv hz' => ?_⟩
              by_cases hjk : j < k
              · exact HV.out j v z' hjk hv hz'
              · obtain rfl : j = k := by omega
                rw [HVv.out] at hv
                rw [HZ.out] at hz'
                rw [← Option.some.inj hv, ← Option.some.inj hz']
                exact HY.out
            case measure => simp [intOf]; omega
          · have tz : (z != (c : Int)) = true := by simpa using hzc
            have HNo : Hid (WaA.ok ⟨n, some ⟨bz, oz, none⟩, zc, Z, some ⟨b, o, none⟩, lc, P⟩ = false) := Lib.hid (wvOk_no HVv.out HZ.out (by
              unfold lvB
              show (decide (p.K = (n : Int)) && okB (n : Int) p.L && decide (z = (cnt p.L 0 (n : Int).toNat : Int))) = false
              rw [Int.toNat_natCast, HC.out, decide_eq_false hzc, Bool.and_false]))
            refine wp_region_bw (by kernel_rfl) (by kernel_rfl) W6 (Below.refl _ _) ?_
            repeat (go_big_quiet_step (first | (go_at_call 39; exact Calls.bw (CO.out _ (BW.ok _))) | (go_at_call 26; exact Calls.bw (CR.out _ (BW.ok _)))))
            refine wpQuiet_nil ?_
            rintro W7 ⟨q7, hq7⟩
            have inv := q7.ok
            rw [← hq7] at inv
            clear hq7 q7
            have HI7 := Lib.hid (HI6.out.more inv)
            clear hzc tz x0 x1 x2 x3 x4 CO CR KS tk k9 inv
            go_wp2_with (first | (refine wpList_build_none rfl 57 (by rfl) ZM hbz ?_) | ((with_reducible show wpList _ _ _ (⟨none, .store 57 _ _, _, _, _, _⟩ :: _) _ _); with_reducible refine Hid.out ?_))
            refine Lib.hid ?_
            refine wpList_store_row (by rfl) 57 _ _ (by rfl) (w.heap.size + 1) ZM (by rfl) (by rfl) 57 ZM (by rw [← HZM.out]; exact HI7.out.res) hZi rfl hZo ?_
            have hxr := (show Box W7 (w.heap.size + 1) 57 ZM by rw [← HZM.out]; exact HI7.out.res).row ZM
            have HBr : Hid (Below w.heap.size w (W7.setRow (w.heap.size + 1) ZM)) := Lib.hid (below_setRow HI7.out.below (by omega) _)
            generalize W7.setRow (w.heap.size + 1) ZM = W8 at *
            go_wp2
            refine bodyPost_ret (v := .tuple #[.agg ZM, .bool false]) (res_run _ _ (w.heap.size + 1) ZM false (by rfl) (by rfl) hxr hZs) rfl ?_
            refine ⟨?_, HBr.out⟩
            unfold WaA.cells
            rw [HNo.out, if_neg (by simp), HZM.out]
      · have tk : (p.K != (n : Int)) = true := by simpa using hK
        have HNo : Hid (WaA.ok ⟨n, some ⟨bz, oz, none⟩, zc, Z, some ⟨b, o, none⟩, lc, P⟩ = false) := Lib.hid (wvOk_no HVv.out HZ.out (by
          unfold lvB
          show (decide (p.K = (n : Int)) && okB (n : Int) p.L && decide (z = (cnt p.L 0 (n : Int).toNat : Int))) = false
          rw [decide_eq_false hK, Bool.false_and, Bool.false_and]))
        clear hK
        refine wp_region_bw (by kernel_rfl) (by kernel_rfl) W6 (Below.refl _ _) ?_
        repeat (go_big_quiet_step (first | fail))
        refine wpQuiet_nil ?_
        rintro W7 ⟨q7, hq7⟩
        have inv := q7.ok
        rw [← hq7] at inv
        clear hq7 q7
        have HI7 := Lib.hid (HI6.out.more inv)
        clear x0 x1 x2 x3 x4 CO CR KS tk k9 inv
        go_wp2_with (first | (refine wpList_build_none rfl 57 (by rfl) ZM hbz ?_) | ((with_reducible show wpList _ _ _ (⟨none, .store 57 _ _, _, _, _, _⟩ :: _) _ _); with_reducible refine Hid.out ?_))
        refine Lib.hid ?_
        refine wpList_store_row (by rfl) 57 _ _ (by rfl) (w.heap.size + 1) ZM (by rfl) (by rfl) 57 ZM (by rw [← HZM.out]; exact HI7.out.res) hZi rfl hZo ?_
        have hxr := (show Box W7 (w.heap.size + 1) 57 ZM by rw [← HZM.out]; exact HI7.out.res).row ZM
        have HBr : Hid (Below w.heap.size w (W7.setRow (w.heap.size + 1) ZM)) := Lib.hid (below_setRow HI7.out.below (by omega) _)
        generalize W7.setRow (w.heap.size + 1) ZM = W8 at *
        go_wp2
        refine bodyPost_ret (v := .tuple #[.agg ZM, .bool false]) (res_run _ _ (w.heap.size + 1) ZM false (by rfl) (by rfl) hxr hZs) rfl ?_
        refine ⟨?_, HBr.out⟩
        unfold WaA.cells
        rw [HNo.out, if_neg (by simp), HZM.out]
    · obtain rfl : k = 9 := by omega
      have HOk : Hid (WaA.ok ⟨n, ZA, zc, Z, LA, lc, P⟩ = true) := Lib.hid ((wvOk_iff _ _ _).2 ⟨⟨by simp, show (n : Int) ≤ 1000 by omega, by rw [List.length_map, h2.out], h3.out⟩, fun j v z hv hz => HV.out j v z (by
        have := (List.getElem?_eq_some_iff.1 hv).1
        rw [List.length_map, h2.out] at this
        exact this) hv hz⟩)
      have hxm := HI.out.mat
      have hms := mcs_size n P 9
      have hmi : (Tryd.prog.info? 57).map (·.size) = some (mcs n P 9).size := by rw [hms]; exact Tryd.infoMtx
      have HMo := Lib.hid (mcs_one n P 9)
      have HMz : Hid (ZM.size = (mcs n P 9).size) := Lib.hid (by rw [hZs, hms])
      have HCs : Hid (WaA.cells ⟨n, ZA, zc, Z, LA, lc, P⟩ = mcs n P 9) := Lib.hid (by unfold WaA.cells; rw [if_pos HOk.out, Int.toNat_natCast])
      obtain ⟨M, hM⟩ : ∃ M, mcs n P 9 = M := ⟨_, rfl⟩
      rw [hM] at hxm hms hmi HMo HMz HCs
      clear hM HV
      go_wp2_with (first | (refine wpList_load_row rfl 57 _ rfl (w.heap.size + 2) rfl 57 _ (0, 0) _ hxm Tryd.underlying57 rfl hmi ?_) | ((with_reducible show wpList _ _ _ (⟨none, .store 57 _ _, _, _, _, _⟩ :: _) _ _); with_reducible refine Hid.out ?_))
      refine Lib.hid ?_
      refine wpList_store_row (by rfl) 57 _ _ (by rfl) (w.heap.size + 1) M (by rfl) (by rfl) 57 ZM (by rw [← HZM.out]; exact HI.out.res) hmi HMz.out HMo.out ?_
      have hxr := (show Box wr (w.heap.size + 1) 57 ZM by rw [← HZM.out]; exact HI.out.res).row M
      have HBr : Hid (Below w.heap.size w (wr.setRow (w.heap.size + 1) M)) := Lib.hid (below_setRow HI.out.below (by omega) _)
      generalize wr.setRow (w.heap.size + 1) M = W8 at *
      go_wp2
      refine bodyPost_ret (v := .tuple #[.agg M, .bool true]) (res_run _ _ (w.heap.size + 1) M true (by rfl) (by rfl) hxr hms) rfl ?_
      refine ⟨?_, HBr.out⟩
      rw [HOk.out, HCs.out]

set_option maxHeartbeats 1600000 in
theorem matrixOf_bad (a : WaA) (w : World) (hL : LiesWa w a) (h : ¬ (0 ≤ a.N ∧ a.N ≤ 1000 ∧ a.P.length = 9 ∧ a.Z.length = 9)) :
    Calls Tryd.prog 27 #[a.value] w (MtxEnd w a) := by
  have hok : a.ok = false := wvOk_head (by rw [List.length_map]; exact h)
  have hcs : a.cells = zeroM := by unfold WaA.cells; rw [hok]; rfl
  unfold MtxEnd
  rw [hok, hcs]
  obtain ⟨N, ZA, zc, Z, LA, lc, P⟩ := a
  unfold WaA.value
  simp only at h ⊢
  have hz1 := hL.size.1
  have hz2 := hL.size.2
  simp only at hz1 hz2
  clear hL hok hcs
  have hbz := Tryd.buildMtx0
  have hzz := Tryd.zeroMtx
  have hZs : zeroM.size = 28 := rfl
  have hZi : (Tryd.prog.info? 57).map (·.size) = some zeroM.size := Tryd.infoMtx
  have hZo : zeroM.all (·.oneCell') = true := zeroM_one
  have HB0 : Hid (Below w.heap.size w (((w.alloc (.cells #[.int .i64 N, .slice ZA Z.length zc, .slice LA P.length lc] 28)).alloc (.cells zeroM 57)).setRow (w.heap.size + 1) zeroM)) := Lib.hid (below_setRow (by go_grown) (by omega) _)
  have hb2 := Box.made (w.alloc (.cells #[.int .i64 N, .slice ZA Z.length zc, .slice LA P.length lc] 28)) 57 zeroM
  rw [World.size_alloc] at hb2
  have hbr := hb2.row zeroM
  generalize zeroM = ZM at *
  obtain ⟨m, hm⟩ : ∃ m, P.length = m := ⟨_, rfl⟩
  obtain ⟨l, hl⟩ : ∃ l, Z.length = l := ⟨_, rfl⟩
  rw [hm] at h hz2 HB0 hb2 hbr ⊢
  rw [hl] at h hz1 HB0 hb2 hbr ⊢
  clear hm hl
  by_cases h0 : N < 0
  · have t0 : decide (N < 0) = true := by simpa using h0
    clear h
    go_enter Tryd.func27, Tryd.ntmps27
    go_wp2_with (first | (refine wpList_alloc_agg rfl 57 ZM rfl hzz ?_) | (refine wpList_build_none rfl 57 (by rfl) ZM hbz ?_) | ((with_reducible show wpList _ _ _ (⟨none, .store 57 _ _, _, _, _, _⟩ :: _) _ _); with_reducible refine Hid.out ?_))
    refine Lib.hid ?_
    refine wpList_store_row (by rfl) 57 _ _ (by rfl) (w.heap.size + 1) ZM (by rfl) (by rfl) 57 ZM hb2 hZi rfl hZo ?_
    generalize ((w.alloc (.cells #[.int .i64 N, .slice ZA l zc, .slice LA m lc] 28)).alloc (.cells ZM 57)).setRow (w.heap.size + 1) ZM = W8 at *
    go_wp2
    refine bodyPost_ret (v := .tuple #[.agg ZM, .bool false]) (res_run _ _ (w.heap.size + 1) ZM false (by rfl) (by rfl) hbr hZs) rfl ?_
    exact ⟨rfl, HB0.out⟩
  · have t0 : decide (N < 0) = false := by simpa using h0
    by_cases h1 : 1000 < N
    · have t1 : decide (1000 < N) = true := by simpa using h1
      clear h
      go_enter Tryd.func27, Tryd.ntmps27
      go_wp2_with (first | (refine wpList_alloc_agg rfl 57 ZM rfl hzz ?_) | (refine wpList_build_none rfl 57 (by rfl) ZM hbz ?_) | ((with_reducible show wpList _ _ _ (⟨none, .store 57 _ _, _, _, _, _⟩ :: _) _ _); with_reducible refine Hid.out ?_))
      refine Lib.hid ?_
      refine wpList_store_row (by rfl) 57 _ _ (by rfl) (w.heap.size + 1) ZM (by rfl) (by rfl) 57 ZM hb2 hZi rfl hZo ?_
      generalize ((w.alloc (.cells #[.int .i64 N, .slice ZA l zc, .slice LA m lc] 28)).alloc (.cells ZM 57)).setRow (w.heap.size + 1) ZM = W8 at *
      go_wp2
      refine bodyPost_ret (v := .tuple #[.agg ZM, .bool false]) (res_run _ _ (w.heap.size + 1) ZM false (by rfl) (by rfl) hbr hZs) rfl ?_
      exact ⟨rfl, HB0.out⟩
    · have t1 : decide (1000 < N) = false := by simpa using h1
      by_cases h2 : m = 9
      · have t2 : ((m : Int) != 9) = false := by rw [bne_eq_false_iff_eq]; omega
        have t3 : ((l : Int) != 9) = true := by rw [bne_iff_ne]; intro e; exact h ⟨by omega, by omega, h2, by omega⟩
        clear h h2
        go_enter Tryd.func27, Tryd.ntmps27
        go_wp2_with (first | (refine wpList_alloc_agg rfl 57 ZM rfl hzz ?_) | (refine wpList_build_none rfl 57 (by rfl) ZM hbz ?_) | ((with_reducible show wpList _ _ _ (⟨none, .store 57 _ _, _, _, _, _⟩ :: _) _ _); with_reducible refine Hid.out ?_))
        refine Lib.hid ?_
        refine wpList_store_row (by rfl) 57 _ _ (by rfl) (w.heap.size + 1) ZM (by rfl) (by rfl) 57 ZM hb2 hZi rfl hZo ?_
        generalize ((w.alloc (.cells #[.int .i64 N, .slice ZA l zc, .slice LA m lc] 28)).alloc (.cells ZM 57)).setRow (w.heap.size + 1) ZM = W8 at *
        go_wp2
        refine bodyPost_ret (v := .tuple #[.agg ZM, .bool false]) (res_run _ _ (w.heap.size + 1) ZM false (by rfl) (by rfl) hbr hZs) rfl ?_
        exact ⟨rfl, HB0.out⟩
      · have t2 : ((m : Int) != 9) = true := by rw [bne_iff_ne]; omega
        clear h h2
        go_enter Tryd.func27, Tryd.ntmps27
        go_wp2_with (first | (refine wpList_alloc_agg rfl 57 ZM rfl hzz ?_) | (refine wpList_build_none rfl 57 (by rfl) ZM hbz ?_) | ((with_reducible show wpList _ _ _ (⟨none, .store 57 _ _, _, _, _, _⟩ :: _) _ _); with_reducible refine Hid.out ?_))
        refine Lib.hid ?_
        refine wpList_store_row (by rfl) 57 _ _ (by rfl) (w.heap.size + 1) ZM (by rfl) (by rfl) 57 ZM hb2 hZi rfl hZo ?_
        generalize ((w.alloc (.cells #[.int .i64 N, .slice ZA l zc, .slice LA m lc] 28)).alloc (.cells ZM 57)).setRow (w.heap.size + 1) ZM = W8 at *
        go_wp2
        refine bodyPost_ret (v := .tuple #[.agg ZM, .bool false]) (res_run _ _ (w.heap.size + 1) ZM false (by rfl) (by rfl) hbr hZs) rfl ?_
        exact ⟨rfl, HB0.out⟩

theorem matrixOf_any (a : WaA) (w : World) (hL : LiesWa w a) : Calls Tryd.prog 27 #[a.value] w (MtxEnd w a) := by
  by_cases h : 0 ≤ a.N ∧ a.N ≤ 1000 ∧ a.P.length = 9 ∧ a.Z.length = 9
  · obtain ⟨N, ZA, zc, Z, LA, lc, P⟩ := a
    obtain ⟨h0, h1, h2, h3⟩ := h
    simp only at h0 h1 h2 h3
    obtain ⟨n, rfl⟩ := Int.eq_ofNat_of_zero_le h0
    have c := matrixOf_in n ZA zc Z LA lc P w hL (by omega) (Lib.hid h2) (Lib.hid h3)
    unfold WaA.value
    simp only
    rw [h2, h3]
    exact c
  · exact matrixOf_bad a w hL h

end Go.Proofs.YtoehgcakfblblaaDoor

/- What the functions of a wave answer, as functions of its numbers. Nothing of the program stands here. -/
namespace Go.Proofs.YtoehgcakfblblaaDoor

/-- The words of the levels. -/
def wLs (V : List (Int × List Nat)) : List (List Nat) := V.map Prod.snd
theorem wLs_val (P : List LvA) : wLs (P.map LvA.val) = lvs P := by
  unfold wLs lvs
  rw [List.map_map]
  rfl
/-- The list of a wave, were it valid. -/
def wB (N : Int) (V : List (Int × List Nat)) : List Int := listW N.toNat (wLs V)
def wList (N : Int) (Z : List Int) (V : List (Int × List Nat)) : List Int := if wvOk N Z V = true then wB N V else []
def wAt (N : Int) (Z : List Int) (V : List (Int × List Nat)) (i : Int) : Int := if wvOk N Z V = true ∧ 0 ≤ i ∧ i < N then (numW N.toNat (wLs V) i.toNat : Int) else -1
def wRank (N : Int) (Z : List Int) (V : List (Int × List Nat)) (x i : Int) : Int := if wvOk N Z V = true ∧ 0 ≤ i ∧ i ≤ N then (rankL (wB N V) x i.toNat : Int) else -1
def wLess (N : Int) (Z : List Int) (V : List (Int × List Nat)) (x lo hi : Int) : Int := if wvOk N Z V = true ∧ 0 ≤ lo ∧ lo ≤ hi ∧ hi ≤ N then (lessL (wB N V) x lo.toNat hi.toNat : Int) else -1
def wKth (N : Int) (Z : List Int) (V : List (Int × List Nat)) (lo hi k : Int) : Int := if wvOk N Z V = true ∧ 0 ≤ lo ∧ lo ≤ hi ∧ hi ≤ N ∧ 0 ≤ k ∧ k < hi - lo then (kthW N.toNat (wLs V) lo.toNat hi.toNat k.toNat : Int) else -1

theorem wvOk_n {N : Int} {Z : List Int} {V : List (Int × List Nat)} (h : wvOk N Z V = true) : 0 ≤ N ∧ N ≤ 1000 := by
  have := ((wvOk_iff _ _ _).1 h).1
  omega
theorem wvOk_lvs {N : Int} {Z : List Int} {P : List LvA} (h : wvOk N Z (P.map LvA.val) = true) : (lvs P).length = 9 := by
  have := ((wvOk_iff _ _ _).1 h).1.2.2.1
  rw [lvs_len]
  simpa using this
theorem wB_len (N : Int) (V : List (Int × List Nat)) : (wB N V).length = N.toNat := listW_len _ _
theorem wList_len (N : Int) (Z : List Int) (V : List (Int × List Nat)) : (wList N Z V).length ≤ 1000 := by
  unfold wList
  split
  · rename_i h
    rw [wB_len]
    have := wvOk_n h
    omega
  · simp

section
variable (N : Int) (Z : List Int) (V : List (Int × List Nat))
theorem wAt_bad (i : Int) (h : wvOk N Z V = false) : wAt N Z V i = -1 := by unfold wAt; rw [if_neg (by rw [h]; simp)]
theorem wRank_bad (x i : Int) (h : wvOk N Z V = false) : wRank N Z V x i = -1 := by unfold wRank; rw [if_neg (by rw [h]; simp)]
theorem wLess_bad (x lo hi : Int) (h : wvOk N Z V = false) : wLess N Z V x lo hi = -1 := by unfold wLess; rw [if_neg (by rw [h]; simp)]
theorem wKth_bad (lo hi k : Int) (h : wvOk N Z V = false) : wKth N Z V lo hi k = -1 := by unfold wKth; rw [if_neg (by rw [h]; simp)]
theorem wAt_out (i : Int) (h : i < 0 ∨ N ≤ i) : wAt N Z V i = -1 := by unfold wAt; rw [if_neg (by omega)]
theorem wRank_out (x i : Int) (h : ¬ (0 ≤ i ∧ i ≤ N)) : wRank N Z V x i = -1 := by unfold wRank; rw [if_neg (fun e => h e.2)]
theorem wLess_out (x lo hi : Int) (h : ¬ (0 ≤ lo ∧ lo ≤ hi ∧ hi ≤ N)) : wLess N Z V x lo hi = -1 := by unfold wLess; rw [if_neg (fun e => h e.2)]
theorem wKth_out (lo hi k : Int) (h : ¬ (0 ≤ lo ∧ lo ≤ hi ∧ hi ≤ N ∧ 0 ≤ k ∧ k < hi - lo)) : wKth N Z V lo hi k = -1 := by unfold wKth; rw [if_neg (fun e => h e.2)]
end

section
variable (n : Nat) (Z : List Int) (P : List LvA)
theorem wAt_in (j : Nat) (h : wvOk n Z (P.map LvA.val) = true) (hj : j < n) : wAt n Z (P.map LvA.val) j = numW n (lvs P) j := by
  unfold wAt
  rw [if_pos ⟨h, by omega, by omega⟩, wLs_val]
  rfl
theorem wRank_in (x j : Nat) (h : wvOk n Z (P.map LvA.val) = true) (hx : x < 512) (hj : j ≤ n) : wRank n Z (P.map LvA.val) x j = (plW n (lvs P) x j : Int) - plW n (lvs P) x 0 := by
  have := rank_is (n := n) (wvOk_lvs h) x j hx hj
  unfold wRank
  rw [if_pos ⟨h, by omega, by omega⟩, wB, wLs_val]
  simp only [Int.toNat_natCast]
  omega
theorem wRank_zero (x : Int) (j : Nat) (h : wvOk n Z (P.map LvA.val) = true) (hx : x < 0 ∨ 511 < x) (hj : j ≤ n) : wRank n Z (P.map LvA.val) x j = 0 := by
  have := rank_out (n := n) (wvOk_lvs h) x j hx hj
  unfold wRank
  rw [if_pos ⟨h, by omega, by omega⟩, wB, wLs_val]
  simp only [Int.toNat_natCast]
  omega
theorem wLess_big (x : Int) (a b : Nat) (h : wvOk n Z (P.map LvA.val) = true) (hx : 512 ≤ x) (hab : a ≤ b) (hb : b ≤ n) : wLess n Z (P.map LvA.val) x a b = (b : Int) - (a : Int) := by
  have := less_big (n := n) (wvOk_lvs h) x a b hx hab hb
  unfold wLess
  rw [if_pos ⟨h, by omega, by omega, by omega⟩, wB, wLs_val]
  simp only [Int.toNat_natCast]
  omega
theorem wLess_in (x : Int) (a b : Nat) (h : wvOk n Z (P.map LvA.val) = true) (hx : x < 512) (hab : a ≤ b) (hb : b ≤ n) :
    ∃ y : Nat, y < 512 ∧ (y : Int) = (if x < 0 then 0 else x) ∧ wLess n Z (P.map LvA.val) x a b = lessW n (lvs P) y a b := by
  have e : wLess n Z (P.map LvA.val) x a b = (lessL (listW n (lvs P)) x a b : Int) := by
    unfold wLess
    rw [if_pos ⟨h, by omega, by omega, by omega⟩, wB, wLs_val]
    rfl
  rw [e]
  by_cases h0 : x < 0
  · refine ⟨0, by omega, by rw [if_pos h0]; rfl, ?_⟩
    rw [less_neg (n := n) (wvOk_lvs h) x a b (by omega) hab hb]
  · obtain ⟨y, rfl⟩ := Int.eq_ofNat_of_zero_le (show 0 ≤ x by omega)
    refine ⟨y, by omega, by rw [if_neg h0], ?_⟩
    rw [less_is (n := n) (wvOk_lvs h) y a b (by omega) hab hb]
theorem wKth_in (a b j : Nat) (h : wvOk n Z (P.map LvA.val) = true) (hj : a + j < b) (hb : b ≤ n) : wKth n Z (P.map LvA.val) a b j = kthW n (lvs P) a b j := by
  unfold wKth
  rw [if_pos ⟨h, by omega, by omega, by omega, by omega, by omega⟩, wLs_val]
  rfl
end

end Go.Proofs.YtoehgcakfblblaaDoor

/- WaveOk, WaveAt, WaveRank, WaveLess and WaveKth of the program (written by mkwv6.py). -/
namespace Go.Proofs.YtoehgcakfblblaaDoor
open Go.RowKit
set_option maxRecDepth 100000

theorem isWave_any (x : Int) (w : World) :
    Calls Tryd.prog 23 #[.int .i64 x] w fun e w' => e = .returned (.bool (decide (0 ≤ x ∧ x ≤ 511))) ∧ w = w' := by
  obtain ⟨R, hR⟩ : ∃ R, decide (0 ≤ x ∧ x ≤ 511) = R := ⟨_, rfl⟩
  rw [hR]
  by_cases h0 : 0 ≤ x
  · have t0 : decide (0 ≤ x) = true := by simpa using h0
    by_cases h1 : x < 512
    · have t1 : decide (x < 512) = true := by simpa using h1
      have HR := Lib.hid (show R = true by rw [← hR]; simp; omega)
      clear hR
      go_enter Tryd.func23, Tryd.ntmps23
      go_wp2
      go_ret
      exact ⟨ret_bool HR.out.symm, rfl⟩
    · have t1 : decide (x < 512) = false := by simpa using h1
      have HR := Lib.hid (show R = false by rw [← hR]; simp; omega)
      clear hR
      go_enter Tryd.func23, Tryd.ntmps23
      go_wp2
      go_ret
      exact ⟨ret_bool HR.out.symm, rfl⟩
  · have t0 : decide (0 ≤ x) = false := by simpa using h0
    have HR := Lib.hid (show R = false by rw [← hR]; simp; omega)
    clear hR
    go_enter Tryd.func23, Tryd.ntmps23
    go_wp2
    go_ret
    exact ⟨ret_bool HR.out.symm, rfl⟩

theorem has_any (g : Nat) (n : Nat) (lo hi : Int) (w : World) (hc : w.cell? ⟨g, 27, none⟩ = some (.int .i64 n)) :
    Calls Tryd.prog 29 #[.pointer (some ⟨g, 0, none⟩), .int .i64 lo, .int .i64 hi] w fun e w' => e = .returned (.bool (decide (0 ≤ lo ∧ lo ≤ hi ∧ hi ≤ n))) ∧ w = w' := by
  obtain ⟨R, hR⟩ : ∃ R, decide (0 ≤ lo ∧ lo ≤ hi ∧ hi ≤ (n : Int)) = R := ⟨_, rfl⟩
  rw [hR]
  by_cases h0 : 0 ≤ lo
  · have t0 : decide (0 ≤ lo) = true := by simpa using h0
    by_cases h1 : lo ≤ hi
    · have t1 : decide (lo ≤ hi) = true := by simpa using h1
      by_cases h2 : hi ≤ n
      · have t2 : decide (hi ≤ (n : Int)) = true := by simpa using h2
        have HR := Lib.hid (show R = true by rw [← hR]; simp; omega)
        clear hR
        go_enter Tryd.func29, Tryd.ntmps29
        go_wp2
        go_ret
        exact ⟨ret_bool HR.out.symm, rfl⟩
      · have t2 : decide (hi ≤ (n : Int)) = false := by simpa using h2
        have HR := Lib.hid (show R = false by rw [← hR]; simp; omega)
        clear hR
        go_enter Tryd.func29, Tryd.ntmps29
        go_wp2
        go_ret
        exact ⟨ret_bool HR.out.symm, rfl⟩
    · have t1 : decide (lo ≤ hi) = false := by simpa using h1
      have HR := Lib.hid (show R = false by rw [← hR]; simp; omega)
      clear hR
      go_enter Tryd.func29, Tryd.ntmps29
      go_wp2
      go_ret
      exact ⟨ret_bool HR.out.symm, rfl⟩
  · have t0 : decide (0 ≤ lo) = false := by simpa using h0
    have HR := Lib.hid (show R = false by rw [← hR]; simp; omega)
    clear hR
    go_enter Tryd.func29, Tryd.ntmps29
    go_wp2
    go_ret
    exact ⟨ret_bool HR.out.symm, rfl⟩

set_option maxHeartbeats 3200000 in
theorem implWaveOk_in (N : Int) (ZA : Option Addr) (zc l : Nat) (Z : List Int) (LA : Option Addr) (lc m : Nat) (P : List LvA) (w : World) (hL : LiesWa w ⟨N, ZA, zc, Z, LA, lc, P⟩) (hl : Z.length = l) (hm : P.length = m) :
    Calls Tryd.prog 10 #[.agg #[.int .i64 N, .slice ZA l zc, .slice LA m lc]] w fun e w' => e = .returned (.bool (WaA.ok ⟨N, ZA, zc, Z, LA, lc, P⟩)) ∧ Below w.heap.size w w' := by
  have HC := Lib.hid fun (W : World) (hW : Below w.heap.size w W) => matrixOf_any ⟨N, ZA, zc, Z, LA, lc, P⟩ W (hL.below hW)
  have HL := Lib.hid hL
  unfold WaA.value MtxEnd at HC
  simp only at HC
  rw [hl, hm] at HC
  have hCs := WaA.cells_size ⟨N, ZA, zc, Z, LA, lc, P⟩
  have hCo := WaA.cells_one ⟨N, ZA, zc, Z, LA, lc, P⟩
  have HMx := Lib.hid fun (W : World) (g : Nat) (hx : Box W g 57 (WaA.cells ⟨N, ZA, zc, Z, LA, lc, P⟩)) (hok : WaA.ok ⟨N, ZA, zc, Z, LA, lc, P⟩ = true) (hb : Below w.heap.size w W) => mtx_box hx hok (HL.out.lev.below hb)
  have hzz := Tryd.zeroMtx
  have hCi : (Tryd.prog.info? 57).map (·.size) = some (WaA.cells ⟨N, ZA, zc, Z, LA, lc, P⟩).size := by rw [hCs]; exact Tryd.infoMtx
  have hCz : zeroM.size = (WaA.cells ⟨N, ZA, zc, Z, LA, lc, P⟩).size := by rw [hCs]; rfl
  simp only at HMx
  generalize WaA.cells ⟨N, ZA, zc, Z, LA, lc, P⟩ = M at *
  clear hL
  go_enter Tryd.func10, Tryd.ntmps10
  go_wp2_with fail
  refine (HC.out _ (by go_grown)).mono ?_
  rintro e w1 ⟨rfl, hb⟩
  have HB1 := Lib.hid (below_then (show Below w.heap.size w (w.alloc (.cells #[.int .i64 N, .slice ZA l zc, .slice LA m lc] 28)) by go_grown) hb)
  clear hb HC
  go_wp2_with (first | (refine wpList_alloc_agg rfl 57 zeroM rfl hzz ?_) | ((with_reducible show wpList _ _ _ (⟨none, .store 57 _ _, _, _, _, _⟩ :: _) _ _); with_reducible refine Hid.out ?_))
  refine Lib.hid ?_
  refine wpList_store_row (by rfl) 57 _ _ (by rfl) w1.heap.size M (by rfl) (by rfl) 57 zeroM (Box.made w1 57 zeroM) hCi hCz hCo ?_
  have hx := (Box.made w1 57 zeroM).row M
  have HB2 : Hid (Below w.heap.size w ((w1.alloc (.cells zeroM 57)).setRow w1.heap.size M)) := Lib.hid (below_setRow (HB1.out.alloc HB1.out.size _) HB1.out.size _)
  generalize hW2 : (w1.alloc (.cells zeroM 57)).setRow w1.heap.size M = w2 at *
  clear hW2 hzz hCi hCz hCo hCs HB1
  generalize w1.heap.size = g at *
  obtain ⟨ok, hok⟩ : ∃ ok, WaA.ok ⟨N, ZA, zc, Z, LA, lc, P⟩ = ok := ⟨_, rfl⟩
  have HO := Lib.hid hok
  rw [hok]
  clear hx HMx hok
  go_wp2
  go_ret
  exact ⟨ret_bool HO.out.symm, HB2.out⟩

set_option maxHeartbeats 3200000 in
theorem implWaveAt_in (N : Int) (ZA : Option Addr) (zc l : Nat) (Z : List Int) (LA : Option Addr) (lc m : Nat) (P : List LvA) (i : Int) (w : World) (hL : LiesWa w ⟨N, ZA, zc, Z, LA, lc, P⟩) (hl : Z.length = l) (hm : P.length = m) :
    Calls Tryd.prog 11 #[.agg #[.int .i64 N, .slice ZA l zc, .slice LA m lc], .int .i64 i] w fun e w' => e = .returned (.int .i64 (wAt N Z (P.map LvA.val) i)) ∧ Below w.heap.size w w' := by
  have HC := Lib.hid fun (W : World) (hW : Below w.heap.size w W) => matrixOf_any ⟨N, ZA, zc, Z, LA, lc, P⟩ W (hL.below hW)
  have HL := Lib.hid hL
  unfold WaA.value MtxEnd at HC
  simp only at HC
  rw [hl, hm] at HC
  have hCs := WaA.cells_size ⟨N, ZA, zc, Z, LA, lc, P⟩
  have hCo := WaA.cells_one ⟨N, ZA, zc, Z, LA, lc, P⟩
  have HMx := Lib.hid fun (W : World) (g : Nat) (hx : Box W g 57 (WaA.cells ⟨N, ZA, zc, Z, LA, lc, P⟩)) (hok : WaA.ok ⟨N, ZA, zc, Z, LA, lc, P⟩ = true) (hb : Below w.heap.size w W) => mtx_box hx hok (HL.out.lev.below hb)
  have hzz := Tryd.zeroMtx
  have hCi : (Tryd.prog.info? 57).map (·.size) = some (WaA.cells ⟨N, ZA, zc, Z, LA, lc, P⟩).size := by rw [hCs]; exact Tryd.infoMtx
  have hCz : zeroM.size = (WaA.cells ⟨N, ZA, zc, Z, LA, lc, P⟩).size := by rw [hCs]; rfl
  simp only at HMx
  generalize WaA.cells ⟨N, ZA, zc, Z, LA, lc, P⟩ = M at *
  clear hL
  go_enter Tryd.func11, Tryd.ntmps11
  go_wp2_with fail
  refine (HC.out _ (by go_grown)).mono ?_
  rintro e w1 ⟨rfl, hb⟩
  have HB1 := Lib.hid (below_then (show Below w.heap.size w (w.alloc (.cells #[.int .i64 N, .slice ZA l zc, .slice LA m lc] 28)) by go_grown) hb)
  clear hb HC
  go_wp2_with (first | (refine wpList_alloc_agg rfl 57 zeroM rfl hzz ?_) | ((with_reducible show wpList _ _ _ (⟨none, .store 57 _ _, _, _, _, _⟩ :: _) _ _); with_reducible refine Hid.out ?_))
  refine Lib.hid ?_
  refine wpList_store_row (by rfl) 57 _ _ (by rfl) w1.heap.size M (by rfl) (by rfl) 57 zeroM (Box.made w1 57 zeroM) hCi hCz hCo ?_
  have hx := (Box.made w1 57 zeroM).row M
  have HB2 : Hid (Below w.heap.size w ((w1.alloc (.cells zeroM 57)).setRow w1.heap.size M)) := Lib.hid (below_setRow (HB1.out.alloc HB1.out.size _) HB1.out.size _)
  generalize hW2 : (w1.alloc (.cells zeroM 57)).setRow w1.heap.size M = w2 at *
  clear hW2 hzz hCi hCz hCo hCs HB1
  generalize w1.heap.size = g at *
  cases hok : WaA.ok ⟨N, ZA, zc, Z, LA, lc, P⟩
  · have HV := Lib.hid (wAt_bad N Z (P.map LvA.val) i hok)
    clear hok hx HMx
    go_wp2
    go_ret
    exact ⟨ret_int HV.out.symm, HB2.out⟩
  · have HMt := HMx.out w2 g hx hok HB2.out
    obtain ⟨n, rfl⟩ := Int.eq_ofNat_of_zero_le (wvOk_n hok).1
    rw [Int.toNat_natCast] at HMt
    have Ht := Lib.hid HMt
    have hn := HMt.small
    have c27 := HMt.top
    have hgl := HMt.lt
    have HOk := Lib.hid hok
    have HT2 := Lib.hid fun (W : World) (hW : Below w2.heap.size w2 W) => HMt.below hW
    clear hx HMx HMt hok
    by_cases h0 : i < 0
    · have t0 : decide (i < 0) = true := by simpa using h0
      have HV := Lib.hid (wAt_out n Z (P.map LvA.val) i (.inl h0))
      clear h0 Ht HT2 HOk
      go_wp2
      go_ret
      exact ⟨ret_int HV.out.symm, HB2.out⟩
    · have t0 : decide (i < 0) = false := by simpa using h0
      by_cases h1 : (n : Int) ≤ i
      · have t1 : decide ((n : Int) ≤ i) = true := by simpa using h1
        have HV := Lib.hid (wAt_out n Z (P.map LvA.val) i (.inr h1))
        clear h0 h1 Ht HT2 HOk
        go_wp2
        go_ret
        exact ⟨ret_int HV.out.symm, HB2.out⟩
      · have t1 : decide ((n : Int) ≤ i) = false := by simpa using h1
        obtain ⟨j, rfl⟩ := Int.eq_ofNat_of_zero_le (show 0 ≤ i by omega)
        have t1n : decide (n ≤ j) = false := by simp; omega
        have HV := Lib.hid (wAt_in n Z P j HOk.out (by omega))
        have CN := Lib.hid (number_any g n j P w2 Ht.out (by omega))
        clear h0 h1 Ht HT2 HOk
        go_wp2_with fail
        refine CN.out.mono ?_
        rintro e w3 ⟨rfl, hb3⟩
        have HB3 := Lib.hid (below_then HB2.out hb3)
        clear hb3
        go_wp2
        go_ret
        exact ⟨ret_int HV.out.symm, HB3.out⟩

set_option maxHeartbeats 3200000 in
theorem implWaveRank_in (N : Int) (ZA : Option Addr) (zc l : Nat) (Z : List Int) (LA : Option Addr) (lc m : Nat) (P : List LvA) (x i : Int) (w : World) (hL : LiesWa w ⟨N, ZA, zc, Z, LA, lc, P⟩) (hl : Z.length = l) (hm : P.length = m) :
    Calls Tryd.prog 13 #[.agg #[.int .i64 N, .slice ZA l zc, .slice LA m lc], .int .i64 x, .int .i64 i] w fun e w' => e = .returned (.int .i64 (wRank N Z (P.map LvA.val) x i)) ∧ Below w.heap.size w w' := by
  have HC := Lib.hid fun (W : World) (hW : Below w.heap.size w W) => matrixOf_any ⟨N, ZA, zc, Z, LA, lc, P⟩ W (hL.below hW)
  have HL := Lib.hid hL
  unfold WaA.value MtxEnd at HC
  simp only at HC
  rw [hl, hm] at HC
  have hCs := WaA.cells_size ⟨N, ZA, zc, Z, LA, lc, P⟩
  have hCo := WaA.cells_one ⟨N, ZA, zc, Z, LA, lc, P⟩
  have HMx := Lib.hid fun (W : World) (g : Nat) (hx : Box W g 57 (WaA.cells ⟨N, ZA, zc, Z, LA, lc, P⟩)) (hok : WaA.ok ⟨N, ZA, zc, Z, LA, lc, P⟩ = true) (hb : Below w.heap.size w W) => mtx_box hx hok (HL.out.lev.below hb)
  have hzz := Tryd.zeroMtx
  have hCi : (Tryd.prog.info? 57).map (·.size) = some (WaA.cells ⟨N, ZA, zc, Z, LA, lc, P⟩).size := by rw [hCs]; exact Tryd.infoMtx
  have hCz : zeroM.size = (WaA.cells ⟨N, ZA, zc, Z, LA, lc, P⟩).size := by rw [hCs]; rfl
  simp only at HMx
  generalize WaA.cells ⟨N, ZA, zc, Z, LA, lc, P⟩ = M at *
  clear hL
  go_enter Tryd.func13, Tryd.ntmps13
  go_wp2_with fail
  refine (HC.out _ (by go_grown)).mono ?_
  rintro e w1 ⟨rfl, hb⟩
  have HB1 := Lib.hid (below_then (show Below w.heap.size w (w.alloc (.cells #[.int .i64 N, .slice ZA l zc, .slice LA m lc] 28)) by go_grown) hb)
  clear hb HC
  go_wp2_with (first | (refine wpList_alloc_agg rfl 57 zeroM rfl hzz ?_) | ((with_reducible show wpList _ _ _ (⟨none, .store 57 _ _, _, _, _, _⟩ :: _) _ _); with_reducible refine Hid.out ?_))
  refine Lib.hid ?_
  refine wpList_store_row (by rfl) 57 _ _ (by rfl) w1.heap.size M (by rfl) (by rfl) 57 zeroM (Box.made w1 57 zeroM) hCi hCz hCo ?_
  have hx := (Box.made w1 57 zeroM).row M
  have HB2 : Hid (Below w.heap.size w ((w1.alloc (.cells zeroM 57)).setRow w1.heap.size M)) := Lib.hid (below_setRow (HB1.out.alloc HB1.out.size _) HB1.out.size _)
  generalize hW2 : (w1.alloc (.cells zeroM 57)).setRow w1.heap.size M = w2 at *
  clear hW2 hzz hCi hCz hCo hCs HB1
  generalize w1.heap.size = g at *
  cases hok : WaA.ok ⟨N, ZA, zc, Z, LA, lc, P⟩
  · have HV := Lib.hid (wRank_bad N Z (P.map LvA.val) x i hok)
    clear hok hx HMx
    go_wp2
    go_ret
    exact ⟨ret_int HV.out.symm, HB2.out⟩
  · have HMt := HMx.out w2 g hx hok HB2.out
    obtain ⟨n, rfl⟩ := Int.eq_ofNat_of_zero_le (wvOk_n hok).1
    rw [Int.toNat_natCast] at HMt
    have Ht := Lib.hid HMt
    have hn := HMt.small
    have c27 := HMt.top
    have hgl := HMt.lt
    have HOk := Lib.hid hok
    have HT2 := Lib.hid fun (W : World) (hW : Below w2.heap.size w2 W) => HMt.below hW
    clear hx HMx HMt hok
    have CH := Lib.hid (has_any g n 0 i w2 c27)
    by_cases hi : 0 ≤ i ∧ i ≤ (n : Int)
    · rw [decide_eq_true (show (0 : Int) ≤ 0 ∧ 0 ≤ i ∧ i ≤ (n : Int) from ⟨Int.le_refl _, hi⟩)] at CH
      obtain ⟨j, rfl⟩ := Int.eq_ofNat_of_zero_le hi.1
      have hj : j ≤ n := by omega
      clear hi
      by_cases hx : 0 ≤ x ∧ x ≤ 511
      · obtain ⟨y, rfl⟩ := Int.eq_ofNat_of_zero_le hx.1
        have HV := Lib.hid (wRank_in n Z P y j HOk.out (by omega) hj)
        have hp0 := plW_le n (lvs P) y j hj
        have CP1 := Lib.hid fun (W : World) (hW : Below w2.heap.size w2 W) => (place_any g n y j P W (HT2.out W hW) (by omega) hj).mono fun _ _ h => (⟨h.1, below_then hW h.2⟩ : _ ∧ Below w2.heap.size w2 _)
        have CP2 := Lib.hid fun (W : World) (hW : Below w2.heap.size w2 W) => (place_any g n y 0 P W (HT2.out W hW) (by omega) (by omega)).mono fun _ _ h => (⟨h.1, below_then hW h.2⟩ : _ ∧ Below w2.heap.size w2 _)
        have CI := Lib.hid fun W => isWave_any (y : Int) W
        rw [decide_eq_true hx] at CI
        obtain ⟨a, ha⟩ : ∃ a, plW n (lvs P) y j = a := ⟨_, rfl⟩
        obtain ⟨b, hb⟩ : ∃ b, plW n (lvs P) y 0 = b := ⟨_, rfl⟩
        rw [ha] at CP1 HV hp0
        rw [hb] at CP2 HV
        have hb1 := plW_le n (lvs P) y 0 (by omega)
        rw [hb] at hb1
        have e1 : IntKind.i64.wrap ((a : Int) - (b : Int)) = (a : Int) - (b : Int) := IntWalk.i64_in _ (by omega)
        clear Ht HT2 HOk hx ha hb
        go_wp2_with fail
        refine CH.out.mono ?_
        rintro e w3 ⟨rfl, rfl⟩
        go_wp2_with fail
        refine (CI.out _).mono ?_
        rintro e w3 ⟨rfl, rfl⟩
        go_wp2_with fail
        refine (CP1.out w2 (Below.refl _ _)).mono ?_
        rintro e w4 ⟨rfl, hb4⟩
        have HB4 := Lib.hid hb4
        clear hb4
        go_wp2_with fail
        refine (CP2.out w4 HB4.out).mono ?_
        rintro e w5 ⟨rfl, hb5⟩
        have HB5 := Lib.hid (below_then HB2.out hb5)
        clear hb5
        go_wp2
        go_ret
        exact ⟨ret_int HV.out.symm, HB5.out⟩
      · have HV := Lib.hid (wRank_zero n Z P x j HOk.out (by omega) hj)
        have CI := Lib.hid fun W => isWave_any x W
        rw [decide_eq_false hx] at CI
        clear Ht HT2 HOk hx
        go_wp2_with fail
        refine CH.out.mono ?_
        rintro e w3 ⟨rfl, rfl⟩
        go_wp2_with fail
        refine (CI.out _).mono ?_
        rintro e w3 ⟨rfl, rfl⟩
        go_wp2
        go_ret
        exact ⟨ret_int HV.out.symm, HB2.out⟩
    · rw [decide_eq_false (show ¬ ((0 : Int) ≤ 0 ∧ 0 ≤ i ∧ i ≤ (n : Int)) from fun h => hi h.2)] at CH
      have HV := Lib.hid (wRank_out n Z (P.map LvA.val) x i hi)
      clear Ht HT2 HOk hi
      go_wp2_with fail
      refine CH.out.mono ?_
      rintro e w3 ⟨rfl, rfl⟩
      go_wp2
      go_ret
      exact ⟨ret_int HV.out.symm, HB2.out⟩

theorem implWaveOk_any (a : WaA) (w : World) (hL : LiesWa w a) : Calls Tryd.prog 10 #[a.value] w fun e w' => e = .returned (.bool a.ok) ∧ Below w.heap.size w w' := by
  obtain ⟨N, ZA, zc, Z, LA, lc, P⟩ := a
  exact implWaveOk_in N ZA zc _ Z LA lc _ P w hL rfl rfl

theorem implWaveAt_any (a : WaA) (i : Int) (w : World) (hL : LiesWa w a) : Calls Tryd.prog 11 #[a.value, .int .i64 i] w fun e w' => e = .returned (.int .i64 (wAt a.N a.Z (a.P.map LvA.val) i)) ∧ Below w.heap.size w w' := by
  obtain ⟨N, ZA, zc, Z, LA, lc, P⟩ := a
  exact implWaveAt_in N ZA zc _ Z LA lc _ P i w hL rfl rfl

theorem implWaveRank_any (a : WaA) (x i : Int) (w : World) (hL : LiesWa w a) : Calls Tryd.prog 13 #[a.value, .int .i64 x, .int .i64 i] w fun e w' => e = .returned (.int .i64 (wRank a.N a.Z (a.P.map LvA.val) x i)) ∧ Below w.heap.size w w' := by
  obtain ⟨N, ZA, zc, Z, LA, lc, P⟩ := a
  exact implWaveRank_in N ZA zc _ Z LA lc _ P x i w hL rfl rfl

end Go.Proofs.YtoehgcakfblblaaDoor
