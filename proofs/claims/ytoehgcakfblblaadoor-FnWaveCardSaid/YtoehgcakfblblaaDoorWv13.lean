/- WaveSelect of the program (written by mkwv13.py). -/
import Derived.Test.YtoehgcakfblblaaDoorWv6
import Derived.Test.YtoehgcakfblblaaDoorWv12
namespace Go.Proofs.YtoehgcakfblblaaDoor
open Go.RowKit
set_option maxRecDepth 100000

/-- What WaveSelect answers. -/
def wSel (N : Int) (Z : List Int) (V : List (Int × List Nat)) (x k : Int) : Int := if wvOk N Z V = true then selL (wB N V) x k else -1
theorem wSel_bad (N : Int) (Z : List Int) (V : List (Int × List Nat)) (x k : Int) (h : wvOk N Z V = false) : wSel N Z V x k = -1 := by unfold wSel; rw [if_neg (by rw [h]; simp)]
theorem wSel_neg (N : Int) (Z : List Int) (V : List (Int × List Nat)) (x k : Int) (h : k < 0) : wSel N Z V x k = -1 := by unfold wSel; rw [selL_neg _ _ _ h]; split <;> rfl
theorem wSel_in (n : Nat) (Z : List Int) (P : List LvA) (y j : Nat) (h : wvOk n Z (P.map LvA.val) = true) : wSel n Z (P.map LvA.val) y j = selL (listW n (lvs P)) y j := by
  unfold wSel wB
  rw [if_pos h, wLs_val]
  rfl
theorem wSel_out (n : Nat) (Z : List Int) (P : List LvA) (x k : Int) (h : wvOk n Z (P.map LvA.val) = true) (hx : x < 0 ∨ 511 < x) : wSel n Z (P.map LvA.val) x k = -1 := by
  by_cases hk : k < 0
  · exact wSel_neg _ _ _ _ _ hk
  · obtain ⟨j, rfl⟩ := Int.eq_ofNat_of_zero_le (show 0 ≤ k by omega)
    unfold wSel wB
    rw [if_pos h, wLs_val]
    exact sel_out (wvOk_lvs h) x j hx

set_option maxHeartbeats 3200000 in
theorem implWaveSelect_in (N : Int) (ZA : Option Addr) (zc l : Nat) (Z : List Int) (LA : Option Addr) (lc m : Nat) (P : List LvA) (x k : Int) (w : World) (hL : LiesWa w ⟨N, ZA, zc, Z, LA, lc, P⟩) (hl : Z.length = l) (hm : P.length = m) (hT : Tab w) :
    Calls Tryd.prog 15 #[.agg #[.int .i64 N, .slice ZA l zc, .slice LA m lc], .int .i64 x, .int .i64 k] w fun e w' => e = .returned (.int .i64 (wSel N Z (P.map LvA.val) x k)) ∧ Below w.heap.size w w' := by
  have HT := Lib.hid fun (W : World) (hW : Below w.heap.size w W) => hT.below hW
  clear hT
  have HC := Lib.hid fun (W : World) (hW : Below w.heap.size w W) => matrixOf_any ⟨N, ZA, zc, Z, LA, lc, P⟩ W (hL.below hW)
  have HL := Lib.hid hL
  unfold WaA.value MtxEnd at HC
  simp only at HC
  rw [hl, hm] at HC
  have hCs := WaA.cells_size ⟨N, ZA, zc, Z, LA, lc, P⟩
  have hCo := WaA.cells_one ⟨N, ZA, zc, Z, LA, lc, P⟩
  have HMx := Lib.hid fun (W : World) (g : Nat) (hx : Box W g 57 (WaA.cells ⟨N, ZA, zc, Z, LA, lc, P⟩)) (hok : WaA.ok ⟨N, ZA, zc, Z, LA, lc, P⟩ = true) (hb : Below w.heap.size w W) => mtx_box hx hok (HL.out.lev.below hb)
  have hzz := Tryd.zeroMtx
  have hCi : (Tryd.prog.info? 57).map (·.size) = some (WaA.cells ⟨N, ZA, zc, Z, LA, lc, P⟩).size := by rw [hCs]; exact Tryd.infoMtx
  have hCz : zeroM.size = (WaA.cells ⟨N, ZA, zc, Z, LA, lc, P⟩).size := by rw [hCs]; rfl
  simp only at HMx
  generalize WaA.cells ⟨N, ZA, zc, Z, LA, lc, P⟩ = M at *
  clear hL
  go_enter Tryd.func15, Tryd.ntmps15
  go_wp2_with fail
  refine (HC.out _ (by go_grown)).mono ?_
  rintro e w1 ⟨rfl, hb⟩
  have HB1 := Lib.hid (below_then (show Below w.heap.size w (w.alloc (.cells #[.int .i64 N, .slice ZA l zc, .slice LA m lc] 28)) by go_grown) hb)
  clear hb HC
  go_wp2_with (first | (refine wpList_alloc_agg rfl 57 zeroM rfl hzz ?_) | ((with_reducible show wpList _ _ _ (⟨none, .store 57 _ _, _, _, _, _⟩ :: _) _ _); with_reducible refine Hid.out ?_))
  refine Lib.hid ?_
  refine wpList_store_row (by rfl) 57 _ _ (by rfl) w1.heap.size M (by rfl) (by rfl) 57 zeroM (Box.made w1 57 zeroM) hCi hCz hCo ?_
  have hx := (Box.made w1 57 zeroM).row M
  have HB2 : Hid (Below w.heap.size w ((w1.alloc (.cells zeroM 57)).setRow w1.heap.size M)) := Lib.hid (below_setRow (HB1.out.alloc HB1.out.size _) HB1.out.size _)
  generalize hW2 : (w1.alloc (.cells zeroM 57)).setRow w1.heap.size M = w2 at *
  clear hW2 hzz hCi hCz hCo hCs HB1
  generalize w1.heap.size = g at *
  cases hok : WaA.ok ⟨N, ZA, zc, Z, LA, lc, P⟩
  · have HV := Lib.hid (wSel_bad N Z (P.map LvA.val) x k hok)
    clear hok hx HMx
    go_wp2
    go_ret
    exact ⟨ret_int HV.out.symm, HB2.out⟩
  · have HMt := HMx.out w2 g hx hok HB2.out
    obtain ⟨n, rfl⟩ := Int.eq_ofNat_of_zero_le (wvOk_n hok).1
    rw [Int.toNat_natCast] at HMt
    have Ht := Lib.hid HMt
    have hn := HMt.small
    have c27 := HMt.top
    have hgl := HMt.lt
    have HOk := Lib.hid hok
    have HT2 := Lib.hid fun (W : World) (hW : Below w2.heap.size w2 W) => HMt.below hW
    clear hx HMx HMt hok
    by_cases hx : 0 ≤ x ∧ x ≤ 511
    · have CI := Lib.hid fun W => isWave_any x W
      rw [decide_eq_true hx] at CI
      by_cases h0 : k < 0
      · have t0 : decide (k < 0) = true := by simpa using h0
        have HV := Lib.hid (wSel_neg n Z (P.map LvA.val) x k h0)
        clear Ht HT2 HOk h0 hx
        go_wp2_with fail
        refine (CI.out _).mono ?_
        rintro e w3 ⟨rfl, rfl⟩
        go_wp2
        go_ret
        exact ⟨ret_int HV.out.symm, HB2.out⟩
      · have t0 : decide (k < 0) = false := by simpa using h0
        obtain ⟨y, rfl⟩ := Int.eq_ofNat_of_zero_le hx.1
        obtain ⟨j, rfl⟩ := Int.eq_ofNat_of_zero_le (show 0 ≤ k by omega)
        have CP1 := Lib.hid fun (W : World) (hW : Below w2.heap.size w2 W) => (place_any g n y 0 P W (HT2.out W hW) (by omega) (by omega)).mono fun _ _ h => (⟨h.1, below_then hW h.2⟩ : _ ∧ Below w2.heap.size w2 _)
        have CP2 := Lib.hid fun (W : World) (hW : Below w2.heap.size w2 W) => (place_any g n y n P W (HT2.out W hW) (by omega) (Nat.le_refl _)).mono fun _ _ h => (⟨h.1, below_then hW h.2⟩ : _ ∧ Below w2.heap.size w2 _)
        have HT27 := Lib.hid fun (W : World) (hW : Below w2.heap.size w2 W) => (HT2.out W hW).top
        have HJ : (plW n (lvs P) y 0 + j < plW n (lvs P) y n → Hid (∃ J : Nat → Nat, wSel n Z (P.map LvA.val) y j = J 0 ∧ ∀ (W : World) (_ : Below w2.heap.size w2 W), Calls Tryd.prog 31 #[.pointer (some ⟨g, 0, none⟩), .int .i64 y, .int .i64 (plW n (lvs P) y 0 + j : Nat)] W fun e w' => e = .returned (.int .i64 (J 0)) ∧ Below w2.heap.size w2 w')) := fun hlt => Lib.hid (by
          obtain ⟨J, j0, j9, jn, jj⟩ := sel_path (wvOk_lvs HOk.out) y j (by omega) hlt
          exact ⟨J, (wSel_in n Z P y j HOk.out).trans j0, fun W hW => (windex_any g n y _ J P W (HT2.out W hW) (by omega) j9 jn jj (HT.out W (below_then HB2.out hW))).mono fun _ _ h => ⟨h.1, below_then hW h.2⟩⟩)
        have HN : (plW n (lvs P) y n ≤ plW n (lvs P) y 0 + j → Hid (wSel n Z (P.map LvA.val) y j = -1)) := fun hle => Lib.hid ((wSel_in n Z P y j HOk.out).trans (sel_few (wvOk_lvs HOk.out) y j (by omega) hle))
        have hb1 := plW_le n (lvs P) y n (Nat.le_refl _)
        have ha1 := plW_le n (lvs P) y 0 (Nat.zero_le _)
        obtain ⟨a, ha⟩ : ∃ a, plW n (lvs P) y 0 = a := ⟨_, rfl⟩
        obtain ⟨b, hb⟩ : ∃ b, plW n (lvs P) y n = b := ⟨_, rfl⟩
        rw [ha] at CP1 HJ HN ha1
        rw [hb] at CP2 HJ HN hb1
        have e1 : IntKind.i64.wrap ((b : Int) - (a : Int)) = (b : Int) - (a : Int) := IntWalk.i64_in _ (by omega)
        clear Ht HT2 HOk hx ha hb h0
        have HB27 := Lib.hid (HT27.out _ (Below.refl w2.heap.size w2).drew)
        go_wp2_with fail
        refine (CI.out _).mono ?_
        rintro e w3 ⟨rfl, rfl⟩
        have inv : Below w2.heap.size w2 w2.drew := (Below.refl _ _).drew
        go_wp2_with fail
        go_region_held3 (fun w' => w'.cell? ⟨g, 27, none⟩ = some (.int .i64 n)) (first | exact HT27.out _ inv | (go_keep; done) | assumption) (first | (go_at_call 30; (with_reducible refine Calls.mono (CP1.out _ inv) ?_); rintro e w8 ⟨rfl, inv2⟩; replace inv := inv2; clear inv2; have d27 := HT27.out _ inv) | (go_at_call 30; (with_reducible refine Calls.mono (CP2.out _ inv) ?_); rintro e w8 ⟨rfl, inv2⟩; replace inv := inv2; clear inv2; have d27 := HT27.out _ inv))
        have HF := Lib.hid inv
        clear inv
        by_cases hlt : a + j < b
        · have t1 : decide ((b : Int) - (a : Int) ≤ (j : Int)) = false := by simp; omega
          obtain ⟨J, j0, CX⟩ := (HJ hlt).out
          replace j0 := Lib.hid j0
          have CX' := Lib.hid (CX _ HF.out)
          obtain ⟨r, hr⟩ : ∃ r, J 0 = r := ⟨_, rfl⟩
          rw [hr] at j0 CX'
          obtain ⟨q, hq⟩ : ∃ q, a + j = q := ⟨_, rfl⟩
          rw [hq] at CX'
          have e2 : IntKind.i64.wrap ((a : Int) + (j : Int)) = (q : Int) := by rw [IntWalk.i64_in _ (by omega)]; omega
          have e3 : (a : Int) + (j : Int) = (q : Int) := by omega
          have e4 : IntKind.i64.wrap (q : Int) = (q : Int) := IntWalk.i64_in _ (by omega)
          clear CX hr hq HJ HN hlt
          go_wp2_with fail
          refine CX'.out.mono ?_
          rintro e w9 ⟨rfl, hb9⟩
          have HB9 := Lib.hid (below_then HB2.out hb9)
          clear hb9
          go_wp2
          go_ret
          exact ⟨ret_int j0.out.symm, HB9.out⟩
        · have t1 : decide ((b : Int) - (a : Int) ≤ (j : Int)) = true := by simp; omega
          have HV := HN (by omega)
          have HB9 := Lib.hid (below_then HB2.out HF.out)
          clear HJ HN hlt
          go_wp2
          go_ret
          exact ⟨ret_int HV.out.symm, HB9.out⟩
    · have CI := Lib.hid fun W => isWave_any x W
      rw [decide_eq_false hx] at CI
      have HV := Lib.hid (wSel_out n Z P x k HOk.out (by omega))
      clear Ht HT2 HOk hx
      go_wp2_with fail
      refine (CI.out _).mono ?_
      rintro e w3 ⟨rfl, rfl⟩
      go_wp2
      go_ret
      exact ⟨ret_int HV.out.symm, HB2.out⟩

theorem implWaveSelect_any (a : WaA) (x k : Int) (w : World) (hL : LiesWa w a) (hT : Tab w) : Calls Tryd.prog 15 #[a.value, .int .i64 x, .int .i64 k] w fun e w' => e = .returned (.int .i64 (wSel a.N a.Z (a.P.map LvA.val) x k)) ∧ Below w.heap.size w w' := by
  obtain ⟨N, ZA, zc, Z, LA, lc, P⟩ := a
  exact implWaveSelect_in N ZA zc _ Z LA lc _ P x k w hL rfl rfl hT

end Go.Proofs.YtoehgcakfblblaaDoor
