/- matrixOf walked. -/
import Derived.Test.YtoehgcakfblblaaLv4
import Derived.Test.YtoehgcakfblblaaWvQ
namespace Go.Proofs.Ytoehgcakfblblaa
open Go.RowKit
set_option maxRecDepth 100000

/-- What matrixOf returns. -/
def MtxEnd (w : World) (a : WaA) (e : Ending) (w' : World) : Prop := e = .returned (.tuple #[.agg a.cells, .bool a.ok]) ∧ Below w.heap.size w w'

theorem Try.zeroMtx (W : World) : (zeroValue 72).run Try.prog W = .ok (.agg zeroM) W := by kernel_rfl
theorem Try.buildMtx0 (W : World) : (Instr.build 72 #[]).run Try.prog W = .ok (.agg zeroM) W := by kernel_rfl
theorem Try.buildMtx1 (n : Int) (W : World) : (Instr.build 72 #[(1, .int .i64 n)]).run Try.prog W = .ok (.agg (zeroM.setIfInBounds 27 (.int .i64 n))) W := by kernel_rfl

/-- What holds while the levels are looked at. -/
structure MtxInv (w : World) (a : WaA) (n k : Nat) (W : World) : Prop where
  below : Below w.heap.size w W
  arg : Box W w.heap.size 27 #[.int .i64 n, .slice a.ZA 9 a.zc, .slice a.LA 9 a.lc]
  res : Box W (w.heap.size + 1) 72 zeroM
  mat : Box W (w.heap.size + 2) 72 (mcs n a.P k)
theorem MtxInv.more {w : World} {a : WaA} {n k : Nat} {W W' : World} (h : MtxInv w a n k W) (hb : Below W.heap.size W W') : MtxInv w a n k W' :=
  ⟨below_then h.below hb, h.arg.below hb h.arg.lt, h.res.below hb h.res.lt, h.mat.below hb h.mat.lt⟩

theorem res_run (tmps : Array Value) (W : World) (g : Nat) (cs : Array Value) (b : Bool) (h2 : tmps[2]? = some (.pointer (some ⟨g, 0, none⟩))) (h3 : tmps[3]? = some (.bool b)) (hx : Box W g 72 cs) (hs : cs.size = 28) :
    (results Try.f58 tmps).run Try.prog W = .ok (.tuple #[.agg cs, .bool b]) W := by
  have hr := run_loadVar_row (P := Try.prog) W g 72 72 cs (0, 0) _ hx Try.underlying72 rfl (by rw [hs]; exact Try.infoMtx)
  simp [results, Try.results58, h2, h3, asAddr, hr]

set_option maxHeartbeats 3200000 in
theorem matrixOf_in (n : Nat) (ZA : Option Addr) (zc : Nat) (Z : List Int) (LA : Option Addr) (lc : Nat) (P : List LvA) (w : World) (hL : LiesWa w ⟨n, ZA, zc, Z, LA, lc, P⟩) (hn : n ≤ 1000) (h2 : Hid (P.length = 9)) (h3 : Hid (Z.length = 9)) :
    Calls Try.prog 58 #[.agg #[.int .i64 n, .slice ZA 9 zc, .slice LA 9 lc]] w (MtxEnd w ⟨n, ZA, zc, Z, LA, lc, P⟩) := by
  have HL := Lib.hid hL
  have t0 : decide ((n : Int) < 0) = false := by simp
  have t1 : decide ((1000 : Int) < (n : Int)) = false := by simp; omega
  have H0 : Hid (MtxInv w ⟨n, ZA, zc, Z, LA, lc, P⟩ n 0 ((((w.alloc (.cells #[.int .i64 n, .slice ZA 9 zc, .slice LA 9 lc] 27)).alloc (.cells zeroM 72)).alloc (.cells zeroM 72)).setRow (w.heap.size + 2) (zeroM.setIfInBounds 27 (.int .i64 n)))) := Lib.hid (by
    have hb1 := Box.made w 27 #[.int .i64 n, .slice ZA 9 zc, .slice LA 9 lc]
    have hb2 := Box.made (w.alloc (.cells #[.int .i64 n, .slice ZA 9 zc, .slice LA 9 lc] 27)) 72 zeroM
    have hb3 := Box.made ((w.alloc (.cells #[.int .i64 n, .slice ZA 9 zc, .slice LA 9 lc] 27)).alloc (.cells zeroM 72)) 72 zeroM
    rw [World.size_alloc] at hb2 hb3
    rw [World.size_alloc] at hb3
    refine ⟨below_setRow (by go_grown) (by omega) _, ((hb1.alloc _).alloc _).offRow (by omega) _, (hb2.alloc _).offRow (by omega) _, ?_⟩
    rw [mcs_zero]
    exact hb3.row _)
  have hg0 : (((w.alloc (.cells #[.int .i64 n, .slice ZA 9 zc, .slice LA 9 lc] 27)).alloc (.cells zeroM 72)).alloc (.cells zeroM 72)).heap[w.heap.size + 2]? = some (.cells zeroM 72 (0, 0)) := by
    have hb3 := Box.made ((w.alloc (.cells #[.int .i64 n, .slice ZA 9 zc, .slice LA 9 lc] 27)).alloc (.cells zeroM 72)) 72 zeroM
    rw [World.size_alloc, World.size_alloc] at hb3
    exact hb3
  obtain ⟨m0, hm0⟩ : ∃ m0, m0 = zeroM.setIfInBounds 27 (.int .i64 n) := ⟨_, rfl⟩
  have hb1 : ∀ W, (Instr.build 72 #[(1, .int .i64 n)]).run Try.prog W = .ok (.agg m0) W := by rw [hm0]; exact Try.buildMtx1 n
  have hs0 : (Try.prog.info? 72).map (·.size) = some m0.size := by rw [hm0]; exact Try.infoMtx
  have hz0 : zeroM.size = m0.size := by rw [hm0]; rfl
  have ho0 : m0.all (·.oneCell') = true := by rw [hm0, ← mcs_zero n P]; exact mcs_one n P 0
  rw [← hm0] at H0
  have hbz := Try.buildMtx0
  have hzz := Try.zeroMtx
  clear hL hm0
  generalize hZM : zeroM = ZM at *
  go_enter Try.func58, Try.ntmps58
  go_wp2_with (first | (refine wpList_alloc_agg rfl 72 ZM rfl hzz ?_) | (refine wpList_build_one rfl 72 1 _ rfl (.int .i64 n) rfl m0 hb1 ?_) | ((with_reducible show wpList _ _ _ (⟨none, .store 72 _ _, _, _, _, _⟩ :: _) _ _); with_reducible refine Hid.out ?_))
  refine Lib.hid ?_
  refine wpList_store_row (by rfl) 72 _ _ (by rfl) (w.heap.size + 2) m0 (by rfl) (by rfl) 72 ZM hg0 hs0 hz0 ho0 ?_
  have hZs : ZM.size = 28 := by rw [← hZM]; rfl
  have hZi : (Try.prog.info? 72).map (·.size) = some ZM.size := by rw [hZs]; exact Try.infoMtx
  have hZo : ZM.all (·.oneCell') = true := by rw [← hZM]; exact zeroM_one
  have HZM := Lib.hid hZM
  have hcA := H0.out.arg.cell 2
  have hlA := H0.out.arg.lt
  clear hZM hg0 hb1 hs0 hz0 ho0 hzz
  generalize ((((w.alloc (.cells #[.int .i64 n, .slice ZA 9 zc, .slice LA 9 lc] 27)).alloc (.cells ZM 72)).alloc (.cells ZM 72)).setRow (w.heap.size + 2) m0) = W0 at *
  go_wp2
  clear hcA hlA
  go_loopw [34] (fun i wr => ∃ k : Nat, k ≤ 9 ∧ i = .int .i64 k ∧ Hid (MtxInv w ⟨n, ZA, zc, Z, LA, lc, P⟩ n k wr) ∧ Hid (∀ (j : Nat) v z, j < k → (P.map LvA.val)[j]? = some v → Z[j]? = some z → lvB n v z = true)) (fun i _ => 9 - (intOf i).toNat)
  case atStart => exact ⟨0, Nat.zero_le _, rfl, H0, Lib.hid fun j v z h => by omega⟩
  case round =>
    obtain ⟨k, hk, rfl, HI, HV⟩ := hrel
    clear H0
    by_cases hlt : k < 9
    · obtain ⟨p, hp⟩ : ∃ p, P[k]? = some p := ⟨P[k]'(by rw [h2.out]; exact hlt), List.getElem?_eq_getElem _⟩
      obtain ⟨z, hz⟩ : ∃ z, Z[k]? = some z := ⟨Z[k]'(by rw [h3.out]; exact hlt), List.getElem?_eq_getElem _⟩
      obtain ⟨⟨b, o, hLA, hbl, hc0, hc1⟩, hpl, hpt, hpb⟩ := (HL.out.lev.below HI.out.below) k p hp
      obtain ⟨bz, oz, hZA, hbz2, hcz⟩ := (HL.out.zer.below HI.out.below) k z hz
      simp only at hLA hZA hc1
      subst hLA hZA
      have HP := Lib.hid hp
      have HZ := Lib.hid hz
      have HPl := Lib.hid hpl
      have HPb := Lib.hid hpb
      have HPt := Lib.hid hpt
      have HBw := Lib.hid HI.out.below
      have HI6 := Lib.hid (HI.out.more ((Below.refl wr.heap.size wr).alloc (Nat.le_refl _) (.cells #[.int .i64 p.K, p.body] 44)))
      have KS : Hid (∀ W, Below (wr.alloc (.cells #[.int .i64 p.K, p.body] 44)).heap.size (wr.alloc (.cells #[.int .i64 p.K, p.body] 44)) W → W.cell? ⟨wr.heap.size, 0, none⟩ = some (.int .i64 p.K) ∧ W.cell? ⟨wr.heap.size, 1, none⟩ = some (.slice p.A p.L.length p.c) ∧ W.cell? ⟨w.heap.size, 0, none⟩ = some (.int .i64 n) ∧ W.cell? ⟨w.heap.size, 1, none⟩ = some (.slice (some ⟨bz, oz, none⟩) 9 zc) ∧ W.cell? ⟨bz, oz + k, none⟩ = some (.int .i64 z)) := Lib.hid fun W hW => by
        have hb := Box.made wr 44 #[.int .i64 p.K, p.body]
        have hb' := hb.below hW hb.lt
        have ha := (HI6.out.more hW).arg
        refine ⟨hb'.cell 0, hb'.cell 1, ha.cell 0, ha.cell 1, ?_⟩
        exact (hW.cell (p := ⟨bz, oz + k, none⟩) (by rw [World.size_alloc]; show bz < _; omega)).trans ((((Below.refl wr.heap.size wr).alloc (Nat.le_refl _) (.cells #[.int .i64 p.K, p.body] 44)).cell (p := ⟨bz, oz + k, none⟩) hbz2).trans hcz)
      have k9 : (k : Int) < 9 := by omega
      unfold LvA.body at *
      go_wp2_with fail
      clear hc0 hc1 hcz hpl hpt hpb hbl hbz2 hp hz
      have CO := Lib.hid fun (W : World) (hW : Below (wr.alloc (.cells #[.int .i64 p.K, .slice p.A p.L.length p.c] 44)).heap.size (wr.alloc (.cells #[.int .i64 p.K, .slice p.A p.L.length p.c] 44)) W) => (implOk_any p.K p.A p.c p.L W ((HPl.out.below ((Below.refl _ _).alloc (Nat.le_refl _) _)).below hW) HPb.out).mono fun _ _ h => (⟨h.1, below_then hW h.2⟩ : _ ∧ Below (wr.alloc (.cells #[.int .i64 p.K, .slice p.A p.L.length p.c] 44)).heap.size (wr.alloc (.cells #[.int .i64 p.K, .slice p.A p.L.length p.c] 44)) _)
      have CR := Lib.hid fun (W : World) (hW : Below (wr.alloc (.cells #[.int .i64 p.K, .slice p.A p.L.length p.c] 44)).heap.size (wr.alloc (.cells #[.int .i64 p.K, .slice p.A p.L.length p.c] 44)) W) => (implRank_any p.K p.A p.c p.L 0 p.K W ((HPl.out.below ((Below.refl _ _).alloc (Nat.le_refl _) _)).below hW) HPb.out HPt.out.1 HPt.out.2).mono fun _ _ h => (⟨h.1, below_then hW h.2⟩ : _ ∧ Below (wr.alloc (.cells #[.int .i64 p.K, .slice p.A p.L.length p.c] 44)).heap.size (wr.alloc (.cells #[.int .i64 p.K, .slice p.A p.L.length p.c] 44)) _)
      generalize wr.alloc (.cells #[.int .i64 p.K, .slice p.A p.L.length p.c] 44) = W6 at *
      have x0 : ∀ q : BW W6, q.val.cell? ⟨wr.heap.size, 0, none⟩ = some (.int .i64 p.K) := fun q => (KS.out _ q.ok).1
      have x1 : ∀ q : BW W6, q.val.cell? ⟨wr.heap.size, 1, none⟩ = some (.slice p.A p.L.length p.c) := fun q => (KS.out _ q.ok).2.1
      have x2 : ∀ q : BW W6, q.val.cell? ⟨w.heap.size, 0, none⟩ = some (.int .i64 n) := fun q => (KS.out _ q.ok).2.2.1
      have x3 : ∀ q : BW W6, q.val.cell? ⟨w.heap.size, 1, none⟩ = some (.slice (some ⟨bz, oz, none⟩) 9 zc) := fun q => (KS.out _ q.ok).2.2.2.1
      have x4 : ∀ q : BW W6, q.val.cell? ⟨bz, oz + k, none⟩ = some (.int .i64 z) := fun q => (KS.out _ q.ok).2.2.2.2
      have HVv : Hid ((P.map LvA.val)[k]? = some p.val) := Lib.hid (by rw [List.getElem?_map, HP.out]; rfl)
      have hk0 : (0 : Int) ≤ (k : Int) := by omega
      by_cases hK : p.K = (n : Int)
      · have tk : (p.K != (n : Int)) = false := by simpa using hK
        have HK := Lib.hid hK
        clear hK
        cases hok : okB p.K p.L
        · have HNo : Hid (WaA.ok ⟨n, some ⟨bz, oz, none⟩, zc, Z, some ⟨b, o, none⟩, lc, P⟩ = false) := Lib.hid (wvOk_no HVv.out HZ.out (show lvB (n : Int) p.val z = false by unfold lvB; rw [← HK.out]; show (_ && okB p.K p.L && _) = false; rw [hok]; simp))
          rw [hok] at CO
          clear hok
          refine wp_region_bw (by kernel_rfl) (by kernel_rfl) W6 (Below.refl _ _) ?_
          repeat (go_big_quiet_step (first | (go_at_call 75; exact Calls.bw (CO.out _ (BW.ok _)))))
          refine wpQuiet_nil ?_
          rintro W7 ⟨q7, hq7⟩
          have inv := q7.ok
          rw [← hq7] at inv
          clear hq7 q7
          have HI7 := Lib.hid (HI6.out.more inv)
          clear x0 x1 x2 x3 x4 CO CR KS tk k9 inv
          go_wp2_with (first | (refine wpList_build_none rfl 72 (by rfl) ZM hbz ?_) | ((with_reducible show wpList _ _ _ (⟨none, .store 72 _ _, _, _, _, _⟩ :: _) _ _); with_reducible refine Hid.out ?_))
          refine Lib.hid ?_
          refine wpList_store_row (by rfl) 72 _ _ (by rfl) (w.heap.size + 1) ZM (by rfl) (by rfl) 72 ZM (by rw [← HZM.out]; exact HI7.out.res) hZi rfl hZo ?_
          have hxr := (show Box W7 (w.heap.size + 1) 72 ZM by rw [← HZM.out]; exact HI7.out.res).row ZM
          have HBr : Hid (Below w.heap.size w (W7.setRow (w.heap.size + 1) ZM)) := Lib.hid (below_setRow HI7.out.below (by omega) _)
          generalize W7.setRow (w.heap.size + 1) ZM = W8 at *
          go_wp2
          refine bodyPost_ret (v := .tuple #[.agg ZM, .bool false]) (res_run _ _ (w.heap.size + 1) ZM false (by rfl) (by rfl) hxr hZs) rfl ?_
          refine ⟨?_, HBr.out⟩
          unfold WaA.cells
          rw [HNo.out, if_neg (by simp), HZM.out]
        · rw [hok] at CO
          have hrv : rankV p.K p.L 0 p.K = (cnt p.L 0 n : Int) := by
            unfold rankV
            rw [if_pos ⟨hok, .inl rfl, by rw [HK.out]; omega, Int.le_refl _⟩, HK.out, Int.toNat_natCast]
          rw [hrv] at CR
          have HOk := Lib.hid hok
          clear hok hrv
          obtain ⟨c, hc⟩ : ∃ c, cnt p.L 0 n = c := ⟨_, rfl⟩
          have HC := Lib.hid hc
          rw [hc] at CR
          clear hc
          by_cases hzc : z = (c : Int)
          · have tz : (z != (c : Int)) = false := by simpa using hzc
            have HY : Hid (lvB (n : Int) p.val z = true) := Lib.hid (by
              unfold lvB
              show (decide (p.K = (n : Int)) && okB (n : Int) p.L && decide (z = (cnt p.L 0 (n : Int).toNat : Int))) = true
              rw [decide_eq_true HK.out, ← HK.out, HOk.out, HK.out, Int.toNat_natCast, HC.out, decide_eq_true hzc]
              rfl)
            have HZc := Lib.hid hzc
            clear hzc
            refine wp_region_bw (by kernel_rfl) (by kernel_rfl) W6 (Below.refl _ _) ?_
            repeat (go_big_quiet_step (first | (go_at_call 75; exact Calls.bw (CO.out _ (BW.ok _))) | (go_at_call 68; exact Calls.bw (CR.out _ (BW.ok _)))))
            refine wpQuiet_nil ?_
            rintro W7 ⟨q7, hq7⟩
            have inv := q7.ok
            rw [← hq7] at inv
            clear hq7 q7
            have HI7 := Lib.hid (HI6.out.more inv)
            clear CO CR tk tz
            have y0 := KS.out _ inv
            obtain ⟨y0, y1, y2, y3, y4⟩ := y0
            have hm := HI7.out.mat
            have hml := hm.lt
            have z0 := hm.frozen (k * 3)
            have z1 := hm.frozen (k * 3 + 1)
            have z2 := hm.frozen (k * 3 + 2)
            have v0 := (hm.cell (k * 3)).trans (mcs_get n P k (k * 3) (by omega))
            have v1 := (hm.cell (k * 3 + 1)).trans (mcs_get n P k (k * 3 + 1) (by omega))
            have v2 := (hm.cell (k * 3 + 2)).trans (mcs_get n P k (k * 3 + 2) (by omega))
            generalize mcell n P k (k * 3) = q0 at *
            generalize mcell n P k (k * 3 + 1) = q1 at *
            generalize mcell n P k (k * 3 + 2) = q2 at *
            clear hm x0 x1 x2 x3 x4 KS inv
            have HN : Hid (MtxInv w ⟨n, some ⟨bz, oz, none⟩, zc, Z, some ⟨b, o, none⟩, lc, P⟩ n (k + 1) (((W7.setCell ⟨w.heap.size + 1 + 1, k * 3, none⟩ (.int .i64 p.K)).setCell ⟨w.heap.size + 1 + 1, k * 3 + 1, none⟩ (.slice p.A p.L.length p.c)).setCell ⟨w.heap.size + 1 + 1, k * 3 + 2, none⟩ (.int .i64 z)).drew) := Lib.hid (by
              have h := HI7.out
              refine ⟨(((h.below.setCell (by simp; omega) _).setCell (by simp; omega) _).setCell (by simp; omega) _).drew, ((h.arg.off (by dsimp only; omega) _).off (by dsimp only; omega) _).off (by dsimp only; omega) _, ((h.res.off (by dsimp only; omega) _).off (by dsimp only; omega) _).off (by dsimp only; omega) _, ?_⟩
              have hp3 := ((h.mat.put (k * 3) (.int .i64 p.K)).put (k * 3 + 1) (.slice p.A p.L.length p.c)).put (k * 3 + 2) (.int .i64 z)
              have hput := mcs_put n P k p HP.out (by omega)
              unfold LvA.body at hput
              rw [HK.out, HZc.out, ← HC.out] at hp3
              rw [hput] at hp3
              rw [HK.out, HZc.out, ← HC.out]
              exact hp3)
            go_wp2_with fail
            go_still_tail 10, (by kernel_rfl)
            change wpList _ _ _ _ _ W7.drew
            go_wp2
            go_roundw
            case rel =>
              refine ⟨k + 1, by omega, by go_num, HN, Lib.hid fun j v z' hj hv hz' => ?_⟩
              by_cases hjk : j < k
              · exact HV.out j v z' hjk hv hz'
              · obtain rfl : j = k := by omega
                rw [HVv.out] at hv
                rw [HZ.out] at hz'
                rw [← Option.some.inj hv, ← Option.some.inj hz']
                exact HY.out
            case measure => simp [intOf]; omega
          · have tz : (z != (c : Int)) = true := by simpa using hzc
            have HNo : Hid (WaA.ok ⟨n, some ⟨bz, oz, none⟩, zc, Z, some ⟨b, o, none⟩, lc, P⟩ = false) := Lib.hid (wvOk_no HVv.out HZ.out (by
              unfold lvB
              show (decide (p.K = (n : Int)) && okB (n : Int) p.L && decide (z = (cnt p.L 0 (n : Int).toNat : Int))) = false
              rw [Int.toNat_natCast, HC.out, decide_eq_false hzc, Bool.and_false]))
            refine wp_region_bw (by kernel_rfl) (by kernel_rfl) W6 (Below.refl _ _) ?_
            repeat (go_big_quiet_step (first | (go_at_call 75; exact Calls.bw (CO.out _ (BW.ok _))) | (go_at_call 68; exact Calls.bw (CR.out _ (BW.ok _)))))
            refine wpQuiet_nil ?_
            rintro W7 ⟨q7, hq7⟩
            have inv := q7.ok
            rw [← hq7] at inv
            clear hq7 q7
            have HI7 := Lib.hid (HI6.out.more inv)
            clear hzc tz x0 x1 x2 x3 x4 CO CR KS tk k9 inv
            go_wp2_with (first | (refine wpList_build_none rfl 72 (by rfl) ZM hbz ?_) | ((with_reducible show wpList _ _ _ (⟨none, .store 72 _ _, _, _, _, _⟩ :: _) _ _); with_reducible refine Hid.out ?_))
            refine Lib.hid ?_
            refine wpList_store_row (by rfl) 72 _ _ (by rfl) (w.heap.size + 1) ZM (by rfl) (by rfl) 72 ZM (by rw [← HZM.out]; exact HI7.out.res) hZi rfl hZo ?_
            have hxr := (show Box W7 (w.heap.size + 1) 72 ZM by rw [← HZM.out]; exact HI7.out.res).row ZM
            have HBr : Hid (Below w.heap.size w (W7.setRow (w.heap.size + 1) ZM)) := Lib.hid (below_setRow HI7.out.below (by omega) _)
            generalize W7.setRow (w.heap.size + 1) ZM = W8 at *
            go_wp2
            refine bodyPost_ret (v := .tuple #[.agg ZM, .bool false]) (res_run _ _ (w.heap.size + 1) ZM false (by rfl) (by rfl) hxr hZs) rfl ?_
            refine ⟨?_, HBr.out⟩
            unfold WaA.cells
            rw [HNo.out, if_neg (by simp), HZM.out]
      · have tk : (p.K != (n : Int)) = true := by simpa using hK
        have HNo : Hid (WaA.ok ⟨n, some ⟨bz, oz, none⟩, zc, Z, some ⟨b, o, none⟩, lc, P⟩ = false) := Lib.hid (wvOk_no HVv.out HZ.out (by
          unfold lvB
          show (decide (p.K = (n : Int)) && okB (n : Int) p.L && decide (z = (cnt p.L 0 (n : Int).toNat : Int))) = false
          rw [decide_eq_false hK, Bool.false_and, Bool.false_and]))
        clear hK
        refine wp_region_bw (by kernel_rfl) (by kernel_rfl) W6 (Below.refl _ _) ?_
        repeat (go_big_quiet_step (first | fail))
        refine wpQuiet_nil ?_
        rintro W7 ⟨q7, hq7⟩
        have inv := q7.ok
        rw [← hq7] at inv
        clear hq7 q7
        have HI7 := Lib.hid (HI6.out.more inv)
        clear x0 x1 x2 x3 x4 CO CR KS tk k9 inv
        go_wp2_with (first | (refine wpList_build_none rfl 72 (by rfl) ZM hbz ?_) | ((with_reducible show wpList _ _ _ (⟨none, .store 72 _ _, _, _, _, _⟩ :: _) _ _); with_reducible refine Hid.out ?_))
        refine Lib.hid ?_
        refine wpList_store_row (by rfl) 72 _ _ (by rfl) (w.heap.size + 1) ZM (by rfl) (by rfl) 72 ZM (by rw [← HZM.out]; exact HI7.out.res) hZi rfl hZo ?_
        have hxr := (show Box W7 (w.heap.size + 1) 72 ZM by rw [← HZM.out]; exact HI7.out.res).row ZM
        have HBr : Hid (Below w.heap.size w (W7.setRow (w.heap.size + 1) ZM)) := Lib.hid (below_setRow HI7.out.below (by omega) _)
        generalize W7.setRow (w.heap.size + 1) ZM = W8 at *
        go_wp2
        refine bodyPost_ret (v := .tuple #[.agg ZM, .bool false]) (res_run _ _ (w.heap.size + 1) ZM false (by rfl) (by rfl) hxr hZs) rfl ?_
        refine ⟨?_, HBr.out⟩
        unfold WaA.cells
        rw [HNo.out, if_neg (by simp), HZM.out]
    · obtain rfl : k = 9 := by omega
      have HOk : Hid (WaA.ok ⟨n, ZA, zc, Z, LA, lc, P⟩ = true) := Lib.hid ((wvOk_iff _ _ _).2 ⟨⟨by simp, show (n : Int) ≤ 1000 by omega, by rw [List.length_map, h2.out], h3.out⟩, fun j v z hv hz => HV.out j v z (by
        have := (List.getElem?_eq_some_iff.1 hv).1
        rw [List.length_map, h2.out] at this
        exact this) hv hz⟩)
      have hxm := HI.out.mat
      have hms := mcs_size n P 9
      have hmi : (Try.prog.info? 72).map (·.size) = some (mcs n P 9).size := by rw [hms]; exact Try.infoMtx
      have HMo := Lib.hid (mcs_one n P 9)
      have HMz : Hid (ZM.size = (mcs n P 9).size) := Lib.hid (by rw [hZs, hms])
      have HCs : Hid (WaA.cells ⟨n, ZA, zc, Z, LA, lc, P⟩ = mcs n P 9) := Lib.hid (by unfold WaA.cells; rw [if_pos HOk.out, Int.toNat_natCast])
      obtain ⟨M, hM⟩ : ∃ M, mcs n P 9 = M := ⟨_, rfl⟩
      rw [hM] at hxm hms hmi HMo HMz HCs
      clear hM HV
      go_wp2_with (first | (refine wpList_load_row rfl 72 _ rfl (w.heap.size + 2) rfl 72 _ (0, 0) _ hxm Try.underlying72 rfl hmi ?_) | ((with_reducible show wpList _ _ _ (⟨none, .store 72 _ _, _, _, _, _⟩ :: _) _ _); with_reducible refine Hid.out ?_))
      refine Lib.hid ?_
      refine wpList_store_row (by rfl) 72 _ _ (by rfl) (w.heap.size + 1) M (by rfl) (by rfl) 72 ZM (by rw [← HZM.out]; exact HI.out.res) hmi HMz.out HMo.out ?_
      have hxr := (show Box wr (w.heap.size + 1) 72 ZM by rw [← HZM.out]; exact HI.out.res).row M
      have HBr : Hid (Below w.heap.size w (wr.setRow (w.heap.size + 1) M)) := Lib.hid (below_setRow HI.out.below (by omega) _)
      generalize wr.setRow (w.heap.size + 1) M = W8 at *
      go_wp2
      refine bodyPost_ret (v := .tuple #[.agg M, .bool true]) (res_run _ _ (w.heap.size + 1) M true (by rfl) (by rfl) hxr hms) rfl ?_
      refine ⟨?_, HBr.out⟩
      rw [HOk.out, HCs.out]

set_option maxHeartbeats 1600000 in
theorem matrixOf_bad (a : WaA) (w : World) (hL : LiesWa w a) (h : ¬ (0 ≤ a.N ∧ a.N ≤ 1000 ∧ a.P.length = 9 ∧ a.Z.length = 9)) :
    Calls Try.prog 58 #[a.value] w (MtxEnd w a) := by
  have hok : a.ok = false := wvOk_head (by rw [List.length_map]; exact h)
  have hcs : a.cells = zeroM := by unfold WaA.cells; rw [hok]; rfl
  unfold MtxEnd
  rw [hok, hcs]
  obtain ⟨N, ZA, zc, Z, LA, lc, P⟩ := a
  unfold WaA.value
  simp only at h ⊢
  have hz1 := hL.size.1
  have hz2 := hL.size.2
  simp only at hz1 hz2
  clear hL hok hcs
  have hbz := Try.buildMtx0
  have hzz := Try.zeroMtx
  have hZs : zeroM.size = 28 := rfl
  have hZi : (Try.prog.info? 72).map (·.size) = some zeroM.size := Try.infoMtx
  have hZo : zeroM.all (·.oneCell') = true := zeroM_one
  have HB0 : Hid (Below w.heap.size w (((w.alloc (.cells #[.int .i64 N, .slice ZA Z.length zc, .slice LA P.length lc] 27)).alloc (.cells zeroM 72)).setRow (w.heap.size + 1) zeroM)) := Lib.hid (below_setRow (by go_grown) (by omega) _)
  have hb2 := Box.made (w.alloc (.cells #[.int .i64 N, .slice ZA Z.length zc, .slice LA P.length lc] 27)) 72 zeroM
  rw [World.size_alloc] at hb2
  have hbr := hb2.row zeroM
  generalize zeroM = ZM at *
  obtain ⟨m, hm⟩ : ∃ m, P.length = m := ⟨_, rfl⟩
  obtain ⟨l, hl⟩ : ∃ l, Z.length = l := ⟨_, rfl⟩
  rw [hm] at h hz2 HB0 hb2 hbr ⊢
  rw [hl] at h hz1 HB0 hb2 hbr ⊢
  clear hm hl
  by_cases h0 : N < 0
  · have t0 : decide (N < 0) = true := by simpa using h0
    clear h
    go_enter Try.func58, Try.ntmps58
    go_wp2_with (first | (refine wpList_alloc_agg rfl 72 ZM rfl hzz ?_) | (refine wpList_build_none rfl 72 (by rfl) ZM hbz ?_) | ((with_reducible show wpList _ _ _ (⟨none, .store 72 _ _, _, _, _, _⟩ :: _) _ _); with_reducible refine Hid.out ?_))
    refine Lib.hid ?_
    refine wpList_store_row (by rfl) 72 _ _ (by rfl) (w.heap.size + 1) ZM (by rfl) (by rfl) 72 ZM hb2 hZi rfl hZo ?_
    generalize ((w.alloc (.cells #[.int .i64 N, .slice ZA l zc, .slice LA m lc] 27)).alloc (.cells ZM 72)).setRow (w.heap.size + 1) ZM = W8 at *
    go_wp2
    refine bodyPost_ret (v := .tuple #[.agg ZM, .bool false]) (res_run _ _ (w.heap.size + 1) ZM false (by rfl) (by rfl) hbr hZs) rfl ?_
    exact ⟨rfl, HB0.out⟩
  · have t0 : decide (N < 0) = false := by simpa using h0
    by_cases h1 : 1000 < N
    · have t1 : decide (1000 < N) = true := by simpa using h1
      clear h
      go_enter Try.func58, Try.ntmps58
      go_wp2_with (first | (refine wpList_alloc_agg rfl 72 ZM rfl hzz ?_) | (refine wpList_build_none rfl 72 (by rfl) ZM hbz ?_) | ((with_reducible show wpList _ _ _ (⟨none, .store 72 _ _, _, _, _, _⟩ :: _) _ _); with_reducible refine Hid.out ?_))
      refine Lib.hid ?_
      refine wpList_store_row (by rfl) 72 _ _ (by rfl) (w.heap.size + 1) ZM (by rfl) (by rfl) 72 ZM hb2 hZi rfl hZo ?_
      generalize ((w.alloc (.cells #[.int .i64 N, .slice ZA l zc, .slice LA m lc] 27)).alloc (.cells ZM 72)).setRow (w.heap.size + 1) ZM = W8 at *
      go_wp2
      refine bodyPost_ret (v := .tuple #[.agg ZM, .bool false]) (res_run _ _ (w.heap.size + 1) ZM false (by rfl) (by rfl) hbr hZs) rfl ?_
      exact ⟨rfl, HB0.out⟩
    · have t1 : decide (1000 < N) = false := by simpa using h1
      by_cases h2 : m = 9
      · have t2 : ((m : Int) != 9) = false := by rw [bne_eq_false_iff_eq]; omega
        have t3 : ((l : Int) != 9) = true := by rw [bne_iff_ne]; intro e; exact h ⟨by omega, by omega, h2, by omega⟩
        clear h h2
        go_enter Try.func58, Try.ntmps58
        go_wp2_with (first | (refine wpList_alloc_agg rfl 72 ZM rfl hzz ?_) | (refine wpList_build_none rfl 72 (by rfl) ZM hbz ?_) | ((with_reducible show wpList _ _ _ (⟨none, .store 72 _ _, _, _, _, _⟩ :: _) _ _); with_reducible refine Hid.out ?_))
        refine Lib.hid ?_
        refine wpList_store_row (by rfl) 72 _ _ (by rfl) (w.heap.size + 1) ZM (by rfl) (by rfl) 72 ZM hb2 hZi rfl hZo ?_
        generalize ((w.alloc (.cells #[.int .i64 N, .slice ZA l zc, .slice LA m lc] 27)).alloc (.cells ZM 72)).setRow (w.heap.size + 1) ZM = W8 at *
        go_wp2
        refine bodyPost_ret (v := .tuple #[.agg ZM, .bool false]) (res_run _ _ (w.heap.size + 1) ZM false (by rfl) (by rfl) hbr hZs) rfl ?_
        exact ⟨rfl, HB0.out⟩
      · have t2 : ((m : Int) != 9) = true := by rw [bne_iff_ne]; omega
        clear h h2
        go_enter Try.func58, Try.ntmps58
        go_wp2_with (first | (refine wpList_alloc_agg rfl 72 ZM rfl hzz ?_) | (refine wpList_build_none rfl 72 (by rfl) ZM hbz ?_) | ((with_reducible show wpList _ _ _ (⟨none, .store 72 _ _, _, _, _, _⟩ :: _) _ _); with_reducible refine Hid.out ?_))
        refine Lib.hid ?_
        refine wpList_store_row (by rfl) 72 _ _ (by rfl) (w.heap.size + 1) ZM (by rfl) (by rfl) 72 ZM hb2 hZi rfl hZo ?_
        generalize ((w.alloc (.cells #[.int .i64 N, .slice ZA l zc, .slice LA m lc] 27)).alloc (.cells ZM 72)).setRow (w.heap.size + 1) ZM = W8 at *
        go_wp2
        refine bodyPost_ret (v := .tuple #[.agg ZM, .bool false]) (res_run _ _ (w.heap.size + 1) ZM false (by rfl) (by rfl) hbr hZs) rfl ?_
        exact ⟨rfl, HB0.out⟩

theorem matrixOf_any (a : WaA) (w : World) (hL : LiesWa w a) : Calls Try.prog 58 #[a.value] w (MtxEnd w a) := by
  by_cases h : 0 ≤ a.N ∧ a.N ≤ 1000 ∧ a.P.length = 9 ∧ a.Z.length = 9
  · obtain ⟨N, ZA, zc, Z, LA, lc, P⟩ := a
    obtain ⟨h0, h1, h2, h3⟩ := h
    simp only at h0 h1 h2 h3
    obtain ⟨n, rfl⟩ := Int.eq_ofNat_of_zero_le h0
    have c := matrixOf_in n ZA zc Z LA lc P w hL (by omega) (Lib.hid h2) (Lib.hid h3)
    unfold WaA.value
    simp only
    rw [h2, h3]
    exact c
  · exact matrixOf_bad a w hL h

end Go.Proofs.Ytoehgcakfblblaa
