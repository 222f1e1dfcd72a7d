import Derived.Test.YtoehgcakfblblaaLv4
import Derived.Test.YtoehgcakfblblaaWv5
/- What the functions of a wave answer, as functions of its numbers. Nothing of the program stands here. -/
namespace Go.Proofs.Ytoehgcakfblblaa

/-- The words of the levels. -/
def wLs (V : List (Int × List Nat)) : List (List Nat) := V.map Prod.snd
theorem wLs_val (P : List LvA) : wLs (P.map LvA.val) = lvs P := by
  unfold wLs lvs
  rw [List.map_map]
  rfl
/-- The list of a wave, were it valid. -/
def wB (N : Int) (V : List (Int × List Nat)) : List Int := listW N.toNat (wLs V)
def wList (N : Int) (Z : List Int) (V : List (Int × List Nat)) : List Int := if wvOk N Z V = true then wB N V else []
def wAt (N : Int) (Z : List Int) (V : List (Int × List Nat)) (i : Int) : Int := if wvOk N Z V = true ∧ 0 ≤ i ∧ i < N then (numW N.toNat (wLs V) i.toNat : Int) else -1
def wRank (N : Int) (Z : List Int) (V : List (Int × List Nat)) (x i : Int) : Int := if wvOk N Z V = true ∧ 0 ≤ i ∧ i ≤ N then (rankL (wB N V) x i.toNat : Int) else -1
def wLess (N : Int) (Z : List Int) (V : List (Int × List Nat)) (x lo hi : Int) : Int := if wvOk N Z V = true ∧ 0 ≤ lo ∧ lo ≤ hi ∧ hi ≤ N then (lessL (wB N V) x lo.toNat hi.toNat : Int) else -1
def wKth (N : Int) (Z : List Int) (V : List (Int × List Nat)) (lo hi k : Int) : Int := if wvOk N Z V = true ∧ 0 ≤ lo ∧ lo ≤ hi ∧ hi ≤ N ∧ 0 ≤ k ∧ k < hi - lo then (kthW N.toNat (wLs V) lo.toNat hi.toNat k.toNat : Int) else -1

theorem wvOk_n {N : Int} {Z : List Int} {V : List (Int × List Nat)} (h : wvOk N Z V = true) : 0 ≤ N ∧ N ≤ 1000 := by
  have := ((wvOk_iff _ _ _).1 h).1
  omega
theorem wvOk_lvs {N : Int} {Z : List Int} {P : List LvA} (h : wvOk N Z (P.map LvA.val) = true) : (lvs P).length = 9 := by
  have := ((wvOk_iff _ _ _).1 h).1.2.2.1
  rw [lvs_len]
  simpa using this
theorem wB_len (N : Int) (V : List (Int × List Nat)) : (wB N V).length = N.toNat := listW_len _ _
theorem wList_len (N : Int) (Z : List Int) (V : List (Int × List Nat)) : (wList N Z V).length ≤ 1000 := by
  unfold wList
  split
  · rename_i h
    rw [wB_len]
    have := wvOk_n h
    omega
  · simp

section
variable (N : Int) (Z : List Int) (V : List (Int × List Nat))
theorem wAt_bad (i : Int) (h : wvOk N Z V = false) : wAt N Z V i = -1 := by unfold wAt; rw [if_neg (by rw [h]; simp)]
theorem wRank_bad (x i : Int) (h : wvOk N Z V = false) : wRank N Z V x i = -1 := by unfold wRank; rw [if_neg (by rw [h]; simp)]
theorem wLess_bad (x lo hi : Int) (h : wvOk N Z V = false) : wLess N Z V x lo hi = -1 := by unfold wLess; rw [if_neg (by rw [h]; simp)]
theorem wKth_bad (lo hi k : Int) (h : wvOk N Z V = false) : wKth N Z V lo hi k = -1 := by unfold wKth; rw [if_neg (by rw [h]; simp)]
theorem wAt_out (i : Int) (h : i < 0 ∨ N ≤ i) : wAt N Z V i = -1 := by unfold wAt; rw [if_neg (by omega)]
theorem wRank_out (x i : Int) (h : ¬ (0 ≤ i ∧ i ≤ N)) : wRank N Z V x i = -1 := by unfold wRank; rw [if_neg (fun e => h e.2)]
theorem wLess_out (x lo hi : Int) (h : ¬ (0 ≤ lo ∧ lo ≤ hi ∧ hi ≤ N)) : wLess N Z V x lo hi = -1 := by unfold wLess; rw [if_neg (fun e => h e.2)]
theorem wKth_out (lo hi k : Int) (h : ¬ (0 ≤ lo ∧ lo ≤ hi ∧ hi ≤ N ∧ 0 ≤ k ∧ k < hi - lo)) : wKth N Z V lo hi k = -1 := by unfold wKth; rw [if_neg (fun e => h e.2)]
end

section
variable (n : Nat) (Z : List Int) (P : List LvA)
theorem wAt_in (j : Nat) (h : wvOk n Z (P.map LvA.val) = true) (hj : j < n) : wAt n Z (P.map LvA.val) j = numW n (lvs P) j := by
  unfold wAt
  rw [if_pos ⟨h, by omega, by omega⟩, wLs_val]
  rfl
theorem wRank_in (x j : Nat) (h : wvOk n Z (P.map LvA.val) = true) (hx : x < 512) (hj : j ≤ n) : wRank n Z (P.map LvA.val) x j = (plW n (lvs P) x j : Int) - plW n (lvs P) x 0 := by
  have := rank_is (n := n) (wvOk_lvs h) x j hx hj
  unfold wRank
  rw [if_pos ⟨h, by omega, by omega⟩, wB, wLs_val]
  simp only [Int.toNat_natCast]
  omega
theorem wRank_zero (x : Int) (j : Nat) (h : wvOk n Z (P.map LvA.val) = true) (hx : x < 0 ∨ 511 < x) (hj : j ≤ n) : wRank n Z (P.map LvA.val) x j = 0 := by
  have := rank_out (n := n) (wvOk_lvs h) x j hx hj
  unfold wRank
  rw [if_pos ⟨h, by omega, by omega⟩, wB, wLs_val]
  simp only [Int.toNat_natCast]
  omega
theorem wLess_big (x : Int) (a b : Nat) (h : wvOk n Z (P.map LvA.val) = true) (hx : 512 ≤ x) (hab : a ≤ b) (hb : b ≤ n) : wLess n Z (P.map LvA.val) x a b = (b : Int) - (a : Int) := by
  have := less_big (n := n) (wvOk_lvs h) x a b hx hab hb
  unfold wLess
  rw [if_pos ⟨h, by omega, by omega, by omega⟩, wB, wLs_val]
  simp only [Int.toNat_natCast]
  omega
theorem wLess_in (x : Int) (a b : Nat) (h : wvOk n Z (P.map LvA.val) = true) (hx : x < 512) (hab : a ≤ b) (hb : b ≤ n) :
    ∃ y : Nat, y < 512 ∧ (y : Int) = (if x < 0 then 0 else x) ∧ wLess n Z (P.map LvA.val) x a b = lessW n (lvs P) y a b := by
  have e : wLess n Z (P.map LvA.val) x a b = (lessL (listW n (lvs P)) x a b : Int) := by
    unfold wLess
    rw [if_pos ⟨h, by omega, by omega, by omega⟩, wB, wLs_val]
    rfl
  rw [e]
  by_cases h0 : x < 0
  · refine ⟨0, by omega, by rw [if_pos h0]; rfl, ?_⟩
    rw [less_neg (n := n) (wvOk_lvs h) x a b (by omega) hab hb]
  · obtain ⟨y, rfl⟩ := Int.eq_ofNat_of_zero_le (show 0 ≤ x by omega)
    refine ⟨y, by omega, by rw [if_neg h0], ?_⟩
    rw [less_is (n := n) (wvOk_lvs h) y a b (by omega) hab hb]
theorem wKth_in (a b j : Nat) (h : wvOk n Z (P.map LvA.val) = true) (hj : a + j < b) (hb : b ≤ n) : wKth n Z (P.map LvA.val) a b j = kthW n (lvs P) a b j := by
  unfold wKth
  rw [if_pos ⟨h, by omega, by omega, by omega, by omega, by omega⟩, wLs_val]
  rfl
end

end Go.Proofs.Ytoehgcakfblblaa

/- WaveOk, WaveAt, WaveRank, WaveLess and WaveKth of the program (written by mkwv6.py). -/
namespace Go.Proofs.Ytoehgcakfblblaa
open Go.RowKit
set_option maxRecDepth 100000

theorem isWave_any (x : Int) (w : World) :
    Calls Try.prog 62 #[.int .i64 x] w fun e w' => e = .returned (.bool (decide (0 ≤ x ∧ x ≤ 511))) ∧ w = w' := by
  obtain ⟨R, hR⟩ : ∃ R, decide (0 ≤ x ∧ x ≤ 511) = R := ⟨_, rfl⟩
  rw [hR]
  by_cases h0 : 0 ≤ x
  · have t0 : decide (0 ≤ x) = true := by simpa using h0
    by_cases h1 : x < 512
    · have t1 : decide (x < 512) = true := by simpa using h1
      have HR := Lib.hid (show R = true by rw [← hR]; simp; omega)
      clear hR
      go_enter Try.func62, Try.ntmps62
      go_wp2
      go_ret
      exact ⟨ret_bool HR.out.symm, rfl⟩
    · have t1 : decide (x < 512) = false := by simpa using h1
      have HR := Lib.hid (show R = false by rw [← hR]; simp; omega)
      clear hR
      go_enter Try.func62, Try.ntmps62
      go_wp2
      go_ret
      exact ⟨ret_bool HR.out.symm, rfl⟩
  · have t0 : decide (0 ≤ x) = false := by simpa using h0
    have HR := Lib.hid (show R = false by rw [← hR]; simp; omega)
    clear hR
    go_enter Try.func62, Try.ntmps62
    go_wp2
    go_ret
    exact ⟨ret_bool HR.out.symm, rfl⟩

theorem has_any (g : Nat) (n : Nat) (lo hi : Int) (w : World) (hc : w.cell? ⟨g, 27, none⟩ = some (.int .i64 n)) :
    Calls Try.prog 59 #[.pointer (some ⟨g, 0, none⟩), .int .i64 lo, .int .i64 hi] w fun e w' => e = .returned (.bool (decide (0 ≤ lo ∧ lo ≤ hi ∧ hi ≤ n))) ∧ w = w' := by
  obtain ⟨R, hR⟩ : ∃ R, decide (0 ≤ lo ∧ lo ≤ hi ∧ hi ≤ (n : Int)) = R := ⟨_, rfl⟩
  rw [hR]
  by_cases h0 : 0 ≤ lo
  · have t0 : decide (0 ≤ lo) = true := by simpa using h0
    by_cases h1 : lo ≤ hi
    · have t1 : decide (lo ≤ hi) = true := by simpa using h1
      by_cases h2 : hi ≤ n
      · have t2 : decide (hi ≤ (n : Int)) = true := by simpa using h2
        have HR := Lib.hid (show R = true by rw [← hR]; simp; omega)
        clear hR
        go_enter Try.func59, Try.ntmps59
        go_wp2
        go_ret
        exact ⟨ret_bool HR.out.symm, rfl⟩
      · have t2 : decide (hi ≤ (n : Int)) = false := by simpa using h2
        have HR := Lib.hid (show R = false by rw [← hR]; simp; omega)
        clear hR
        go_enter Try.func59, Try.ntmps59
        go_wp2
        go_ret
        exact ⟨ret_bool HR.out.symm, rfl⟩
    · have t1 : decide (lo ≤ hi) = false := by simpa using h1
      have HR := Lib.hid (show R = false by rw [← hR]; simp; omega)
      clear hR
      go_enter Try.func59, Try.ntmps59
      go_wp2
      go_ret
      exact ⟨ret_bool HR.out.symm, rfl⟩
  · have t0 : decide (0 ≤ lo) = false := by simpa using h0
    have HR := Lib.hid (show R = false by rw [← hR]; simp; omega)
    clear hR
    go_enter Try.func59, Try.ntmps59
    go_wp2
    go_ret
    exact ⟨ret_bool HR.out.symm, rfl⟩

set_option maxHeartbeats 3200000 in
theorem implWaveRank_in (N : Int) (ZA : Option Addr) (zc l : Nat) (Z : List Int) (LA : Option Addr) (lc m : Nat) (P : List LvA) (x i : Int) (w : World) (hL : LiesWa w ⟨N, ZA, zc, Z, LA, lc, P⟩) (hl : Z.length = l) (hm : P.length = m) :
    Calls Try.prog 19 #[.agg #[.int .i64 N, .slice ZA l zc, .slice LA m lc], .int .i64 x, .int .i64 i] w fun e w' => e = .returned (.int .i64 (wRank N Z (P.map LvA.val) x i)) ∧ Below w.heap.size w w' := by
  have HC := Lib.hid fun (W : World) (hW : Below w.heap.size w W) => matrixOf_any ⟨N, ZA, zc, Z, LA, lc, P⟩ W (hL.below hW)
  have HL := Lib.hid hL
  unfold WaA.value MtxEnd at HC
  simp only at HC
  rw [hl, hm] at HC
  have hCs := WaA.cells_size ⟨N, ZA, zc, Z, LA, lc, P⟩
  have hCo := WaA.cells_one ⟨N, ZA, zc, Z, LA, lc, P⟩
  have HMx := Lib.hid fun (W : World) (g : Nat) (hx : Box W g 72 (WaA.cells ⟨N, ZA, zc, Z, LA, lc, P⟩)) (hok : WaA.ok ⟨N, ZA, zc, Z, LA, lc, P⟩ = true) (hb : Below w.heap.size w W) => mtx_box hx hok (HL.out.lev.below hb)
  have hzz := Try.zeroMtx
  have hCi : (Try.prog.info? 72).map (·.size) = some (WaA.cells ⟨N, ZA, zc, Z, LA, lc, P⟩).size := by rw [hCs]; exact Try.infoMtx
  have hCz : zeroM.size = (WaA.cells ⟨N, ZA, zc, Z, LA, lc, P⟩).size := by rw [hCs]; rfl
  simp only at HMx
  generalize WaA.cells ⟨N, ZA, zc, Z, LA, lc, P⟩ = M at *
  clear hL
  go_enter Try.func19, Try.ntmps19
  go_wp2_with fail
  refine (HC.out _ (by go_grown)).mono ?_
  rintro e w1 ⟨rfl, hb⟩
  have HB1 := Lib.hid (below_then (show Below w.heap.size w (w.alloc (.cells #[.int .i64 N, .slice ZA l zc, .slice LA m lc] 27)) by go_grown) hb)
  clear hb HC
  go_wp2_with (first | (refine wpList_alloc_agg rfl 72 zeroM rfl hzz ?_) | ((with_reducible show wpList _ _ _ (⟨none, .store 72 _ _, _, _, _, _⟩ :: _) _ _); with_reducible refine Hid.out ?_))
  refine Lib.hid ?_
  refine wpList_store_row (by rfl) 72 _ _ (by rfl) w1.heap.size M (by rfl) (by rfl) 72 zeroM (Box.made w1 72 zeroM) hCi hCz hCo ?_
  have hx := (Box.made w1 72 zeroM).row M
  have HB2 : Hid (Below w.heap.size w ((w1.alloc (.cells zeroM 72)).setRow w1.heap.size M)) := Lib.hid (below_setRow (HB1.out.alloc HB1.out.size _) HB1.out.size _)
  generalize hW2 : (w1.alloc (.cells zeroM 72)).setRow w1.heap.size M = w2 at *
  clear hW2 hzz hCi hCz hCo hCs HB1
  generalize w1.heap.size = g at *
  cases hok : WaA.ok ⟨N, ZA, zc, Z, LA, lc, P⟩
  · have HV := Lib.hid (wRank_bad N Z (P.map LvA.val) x i hok)
    clear hok hx HMx
    go_wp2
    go_ret
    exact ⟨ret_int HV.out.symm, HB2.out⟩
  · have HMt := HMx.out w2 g hx hok HB2.out
    obtain ⟨n, rfl⟩ := Int.eq_ofNat_of_zero_le (wvOk_n hok).1
    rw [Int.toNat_natCast] at HMt
    have Ht := Lib.hid HMt
    have hn := HMt.small
    have c27 := HMt.top
    have hgl := HMt.lt
    have HOk := Lib.hid hok
    have HT2 := Lib.hid fun (W : World) (hW : Below w2.heap.size w2 W) => HMt.below hW
    clear hx HMx HMt hok
    have CH := Lib.hid (has_any g n 0 i w2 c27)
    by_cases hi : 0 ≤ i ∧ i ≤ (n : Int)
    · rw [decide_eq_true (show (0 : Int) ≤ 0 ∧ 0 ≤ i ∧ i ≤ (n : Int) from ⟨Int.le_refl _, hi⟩)] at CH
      obtain ⟨j, rfl⟩ := Int.eq_ofNat_of_zero_le hi.1
      have hj : j ≤ n := by omega
      clear hi
      by_cases hx : 0 ≤ x ∧ x ≤ 511
      · obtain ⟨y, rfl⟩ := Int.eq_ofNat_of_zero_le hx.1
        have HV := Lib.hid (wRank_in n Z P y j HOk.out (by omega) hj)
        have hp0 := plW_le n (lvs P) y j hj
        have CP1 := Lib.hid fun (W : World) (hW : Below w2.heap.size w2 W) => (place_any g n y j P W (HT2.out W hW) (by omega) hj).mono fun _ _ h => (⟨h.1, below_then hW h.2⟩ : _ ∧ Below w2.heap.size w2 _)
        have CP2 := Lib.hid fun (W : World) (hW : Below w2.heap.size w2 W) => (place_any g n y 0 P W (HT2.out W hW) (by omega) (by omega)).mono fun _ _ h => (⟨h.1, below_then hW h.2⟩ : _ ∧ Below w2.heap.size w2 _)
        have CI := Lib.hid fun W => isWave_any (y : Int) W
        rw [decide_eq_true hx] at CI
        obtain ⟨a, ha⟩ : ∃ a, plW n (lvs P) y j = a := ⟨_, rfl⟩
        obtain ⟨b, hb⟩ : ∃ b, plW n (lvs P) y 0 = b := ⟨_, rfl⟩
        rw [ha] at CP1 HV hp0
        rw [hb] at CP2 HV
        have hb1 := plW_le n (lvs P) y 0 (by omega)
        rw [hb] at hb1
        have e1 : IntKind.i64.wrap ((a : Int) - (b : Int)) = (a : Int) - (b : Int) := IntWalk.i64_in _ (by omega)
        clear Ht HT2 HOk hx ha hb
        go_wp2_with fail
        refine CH.out.mono ?_
        rintro e w3 ⟨rfl, rfl⟩
        go_wp2_with fail
        refine (CI.out _).mono ?_
        rintro e w3 ⟨rfl, rfl⟩
        go_wp2_with fail
        refine (CP1.out w2 (Below.refl _ _)).mono ?_
        rintro e w4 ⟨rfl, hb4⟩
        have HB4 := Lib.hid hb4
        clear hb4
        go_wp2_with fail
        refine (CP2.out w4 HB4.out).mono ?_
        rintro e w5 ⟨rfl, hb5⟩
        have HB5 := Lib.hid (below_then HB2.out hb5)
        clear hb5
        go_wp2
        go_ret
        exact ⟨ret_int HV.out.symm, HB5.out⟩
      · have HV := Lib.hid (wRank_zero n Z P x j HOk.out (by omega) hj)
        have CI := Lib.hid fun W => isWave_any x W
        rw [decide_eq_false hx] at CI
        clear Ht HT2 HOk hx
        go_wp2_with fail
        refine CH.out.mono ?_
        rintro e w3 ⟨rfl, rfl⟩
        go_wp2_with fail
        refine (CI.out _).mono ?_
        rintro e w3 ⟨rfl, rfl⟩
        go_wp2
        go_ret
        exact ⟨ret_int HV.out.symm, HB2.out⟩
    · rw [decide_eq_false (show ¬ ((0 : Int) ≤ 0 ∧ 0 ≤ i ∧ i ≤ (n : Int)) from fun h => hi h.2)] at CH
      have HV := Lib.hid (wRank_out n Z (P.map LvA.val) x i hi)
      clear Ht HT2 HOk hi
      go_wp2_with fail
      refine CH.out.mono ?_
      rintro e w3 ⟨rfl, rfl⟩
      go_wp2
      go_ret
      exact ⟨ret_int HV.out.symm, HB2.out⟩

set_option maxHeartbeats 3200000 in
theorem implWaveLess_in (N : Int) (ZA : Option Addr) (zc l : Nat) (Z : List Int) (LA : Option Addr) (lc m : Nat) (P : List LvA) (x lo hi : Int) (w : World) (hL : LiesWa w ⟨N, ZA, zc, Z, LA, lc, P⟩) (hl : Z.length = l) (hm : P.length = m) :
    Calls Try.prog 18 #[.agg #[.int .i64 N, .slice ZA l zc, .slice LA m lc], .int .i64 x, .int .i64 lo, .int .i64 hi] w fun e w' => e = .returned (.int .i64 (wLess N Z (P.map LvA.val) x lo hi)) ∧ Below w.heap.size w w' := by
  have HC := Lib.hid fun (W : World) (hW : Below w.heap.size w W) => matrixOf_any ⟨N, ZA, zc, Z, LA, lc, P⟩ W (hL.below hW)
  have HL := Lib.hid hL
  unfold WaA.value MtxEnd at HC
  simp only at HC
  rw [hl, hm] at HC
  have hCs := WaA.cells_size ⟨N, ZA, zc, Z, LA, lc, P⟩
  have hCo := WaA.cells_one ⟨N, ZA, zc, Z, LA, lc, P⟩
  have HMx := Lib.hid fun (W : World) (g : Nat) (hx : Box W g 72 (WaA.cells ⟨N, ZA, zc, Z, LA, lc, P⟩)) (hok : WaA.ok ⟨N, ZA, zc, Z, LA, lc, P⟩ = true) (hb : Below w.heap.size w W) => mtx_box hx hok (HL.out.lev.below hb)
  have hzz := Try.zeroMtx
  have hCi : (Try.prog.info? 72).map (·.size) = some (WaA.cells ⟨N, ZA, zc, Z, LA, lc, P⟩).size := by rw [hCs]; exact Try.infoMtx
  have hCz : zeroM.size = (WaA.cells ⟨N, ZA, zc, Z, LA, lc, P⟩).size := by rw [hCs]; rfl
  simp only at HMx
  generalize WaA.cells ⟨N, ZA, zc, Z, LA, lc, P⟩ = M at *
  clear hL
  go_enter Try.func18, Try.ntmps18
  go_wp2_with fail
  refine (HC.out _ (by go_grown)).mono ?_
  rintro e w1 ⟨rfl, hb⟩
  have HB1 := Lib.hid (below_then (show Below w.heap.size w (w.alloc (.cells #[.int .i64 N, .slice ZA l zc, .slice LA m lc] 27)) by go_grown) hb)
  clear hb HC
  go_wp2_with (first | (refine wpList_alloc_agg rfl 72 zeroM rfl hzz ?_) | ((with_reducible show wpList _ _ _ (⟨none, .store 72 _ _, _, _, _, _⟩ :: _) _ _); with_reducible refine Hid.out ?_))
  refine Lib.hid ?_
  refine wpList_store_row (by rfl) 72 _ _ (by rfl) w1.heap.size M (by rfl) (by rfl) 72 zeroM (Box.made w1 72 zeroM) hCi hCz hCo ?_
  have hx := (Box.made w1 72 zeroM).row M
  have HB2 : Hid (Below w.heap.size w ((w1.alloc (.cells zeroM 72)).setRow w1.heap.size M)) := Lib.hid (below_setRow (HB1.out.alloc HB1.out.size _) HB1.out.size _)
  generalize hW2 : (w1.alloc (.cells zeroM 72)).setRow w1.heap.size M = w2 at *
  clear hW2 hzz hCi hCz hCo hCs HB1
  generalize w1.heap.size = g at *
  cases hok : WaA.ok ⟨N, ZA, zc, Z, LA, lc, P⟩
  · have HV := Lib.hid (wLess_bad N Z (P.map LvA.val) x lo hi hok)
    clear hok hx HMx
    go_wp2
    go_ret
    exact ⟨ret_int HV.out.symm, HB2.out⟩
  · have HMt := HMx.out w2 g hx hok HB2.out
    obtain ⟨n, rfl⟩ := Int.eq_ofNat_of_zero_le (wvOk_n hok).1
    rw [Int.toNat_natCast] at HMt
    have Ht := Lib.hid HMt
    have hn := HMt.small
    have c27 := HMt.top
    have hgl := HMt.lt
    have HOk := Lib.hid hok
    have HT2 := Lib.hid fun (W : World) (hW : Below w2.heap.size w2 W) => HMt.below hW
    clear hx HMx HMt hok
    have CH := Lib.hid (has_any g n lo hi w2 c27)
    by_cases hi' : 0 ≤ lo ∧ lo ≤ hi ∧ hi ≤ (n : Int)
    · rw [decide_eq_true hi'] at CH
      obtain ⟨a, rfl⟩ := Int.eq_ofNat_of_zero_le hi'.1
      obtain ⟨b, rfl⟩ := Int.eq_ofNat_of_zero_le (show 0 ≤ hi by omega)
      have hab : a ≤ b := by omega
      have hbn : b ≤ n := by omega
      clear hi'
      by_cases hx : 512 ≤ x
      · have t0 : decide ((512 : Int) ≤ x) = true := by simpa using hx
        have HV := Lib.hid (wLess_big n Z P x a b HOk.out hx hab hbn)
        have e1 : IntKind.i64.wrap ((b : Int) - (a : Int)) = (b : Int) - (a : Int) := IntWalk.i64_in _ (by omega)
        clear Ht HT2 HOk hx
        go_wp2_with fail
        refine CH.out.mono ?_
        rintro e w3 ⟨rfl, rfl⟩
        go_wp2
        go_ret
        exact ⟨ret_int HV.out.symm, HB2.out⟩
      · have t0 : decide ((512 : Int) ≤ x) = false := by simpa using hx
        obtain ⟨y, hy, hyx, HV⟩ := wLess_in n Z P x a b HOk.out (by omega) hab hbn
        replace HV := Lib.hid HV
        have CL := Lib.hid (wless_any g n y a b P w2 Ht.out hy hab hbn)
        clear Ht HT2 HOk hx
        by_cases h0 : x < 0
        · rw [if_pos h0] at hyx
          obtain rfl : y = 0 := by omega
          have CL0 : Hid (Calls Try.prog 61 #[.pointer (some ⟨g, 0, none⟩), .int .i64 0, .int .i64 a, .int .i64 b] w2 fun e w' => e = .returned (.int .i64 (lessW n (lvs P) 0 a b)) ∧ Below w2.heap.size w2 w') := CL
          clear CL hyx
          go_wp2_with fail
          refine CH.out.mono ?_
          rintro e w3 ⟨rfl, rfl⟩
          go_wp2_with fail
          with_reducible refine CL0.out.mono ?_
          rintro e w4 ⟨rfl, hb4⟩
          have HB4 := Lib.hid (below_then HB2.out hb4)
          clear hb4
          go_wp2
          go_ret
          exact ⟨ret_int HV.out.symm, HB4.out⟩
        · rw [if_neg h0] at hyx
          subst hyx
          clear h0
          have h1 : ¬ ((y : Int) < 0) := by omega
          go_wp2_with fail
          refine CH.out.mono ?_
          rintro e w3 ⟨rfl, rfl⟩
          go_wp2_with fail
          with_reducible refine CL.out.mono ?_
          rintro e w4 ⟨rfl, hb4⟩
          have HB4 := Lib.hid (below_then HB2.out hb4)
          clear hb4
          go_wp2
          go_ret
          exact ⟨ret_int HV.out.symm, HB4.out⟩
    · rw [decide_eq_false hi'] at CH
      have HV := Lib.hid (wLess_out n Z (P.map LvA.val) x lo hi hi')
      clear Ht HT2 HOk hi'
      go_wp2_with fail
      refine CH.out.mono ?_
      rintro e w3 ⟨rfl, rfl⟩
      go_wp2
      go_ret
      exact ⟨ret_int HV.out.symm, HB2.out⟩

set_option maxHeartbeats 3200000 in
theorem implWaveKth_in (N : Int) (ZA : Option Addr) (zc l : Nat) (Z : List Int) (LA : Option Addr) (lc m : Nat) (P : List LvA) (lo hi k : Int) (w : World) (hL : LiesWa w ⟨N, ZA, zc, Z, LA, lc, P⟩) (hl : Z.length = l) (hm : P.length = m) :
    Calls Try.prog 17 #[.agg #[.int .i64 N, .slice ZA l zc, .slice LA m lc], .int .i64 lo, .int .i64 hi, .int .i64 k] w fun e w' => e = .returned (.int .i64 (wKth N Z (P.map LvA.val) lo hi k)) ∧ Below w.heap.size w w' := by
  have HC := Lib.hid fun (W : World) (hW : Below w.heap.size w W) => matrixOf_any ⟨N, ZA, zc, Z, LA, lc, P⟩ W (hL.below hW)
  have HL := Lib.hid hL
  unfold WaA.value MtxEnd at HC
  simp only at HC
  rw [hl, hm] at HC
  have hCs := WaA.cells_size ⟨N, ZA, zc, Z, LA, lc, P⟩
  have hCo := WaA.cells_one ⟨N, ZA, zc, Z, LA, lc, P⟩
  have HMx := Lib.hid fun (W : World) (g : Nat) (hx : Box W g 72 (WaA.cells ⟨N, ZA, zc, Z, LA, lc, P⟩)) (hok : WaA.ok ⟨N, ZA, zc, Z, LA, lc, P⟩ = true) (hb : Below w.heap.size w W) => mtx_box hx hok (HL.out.lev.below hb)
  have hzz := Try.zeroMtx
  have hCi : (Try.prog.info? 72).map (·.size) = some (WaA.cells ⟨N, ZA, zc, Z, LA, lc, P⟩).size := by rw [hCs]; exact Try.infoMtx
  have hCz : zeroM.size = (WaA.cells ⟨N, ZA, zc, Z, LA, lc, P⟩).size := by rw [hCs]; rfl
  simp only at HMx
  generalize WaA.cells ⟨N, ZA, zc, Z, LA, lc, P⟩ = M at *
  clear hL
  go_enter Try.func17, Try.ntmps17
  go_wp2_with fail
  refine (HC.out _ (by go_grown)).mono ?_
  rintro e w1 ⟨rfl, hb⟩
  have HB1 := Lib.hid (below_then (show Below w.heap.size w (w.alloc (.cells #[.int .i64 N, .slice ZA l zc, .slice LA m lc] 27)) by go_grown) hb)
  clear hb HC
  go_wp2_with (first | (refine wpList_alloc_agg rfl 72 zeroM rfl hzz ?_) | ((with_reducible show wpList _ _ _ (⟨none, .store 72 _ _, _, _, _, _⟩ :: _) _ _); with_reducible refine Hid.out ?_))
  refine Lib.hid ?_
  refine wpList_store_row (by rfl) 72 _ _ (by rfl) w1.heap.size M (by rfl) (by rfl) 72 zeroM (Box.made w1 72 zeroM) hCi hCz hCo ?_
  have hx := (Box.made w1 72 zeroM).row M
  have HB2 : Hid (Below w.heap.size w ((w1.alloc (.cells zeroM 72)).setRow w1.heap.size M)) := Lib.hid (below_setRow (HB1.out.alloc HB1.out.size _) HB1.out.size _)
  generalize hW2 : (w1.alloc (.cells zeroM 72)).setRow w1.heap.size M = w2 at *
  clear hW2 hzz hCi hCz hCo hCs HB1
  generalize w1.heap.size = g at *
  cases hok : WaA.ok ⟨N, ZA, zc, Z, LA, lc, P⟩
  · have HV := Lib.hid (wKth_bad N Z (P.map LvA.val) lo hi k hok)
    clear hok hx HMx
    go_wp2
    go_ret
    exact ⟨ret_int HV.out.symm, HB2.out⟩
  · have HMt := HMx.out w2 g hx hok HB2.out
    obtain ⟨n, rfl⟩ := Int.eq_ofNat_of_zero_le (wvOk_n hok).1
    rw [Int.toNat_natCast] at HMt
    have Ht := Lib.hid HMt
    have hn := HMt.small
    have c27 := HMt.top
    have hgl := HMt.lt
    have HOk := Lib.hid hok
    have HT2 := Lib.hid fun (W : World) (hW : Below w2.heap.size w2 W) => HMt.below hW
    clear hx HMx HMt hok
    have CH := Lib.hid (has_any g n lo hi w2 c27)
    by_cases hi' : 0 ≤ lo ∧ lo ≤ hi ∧ hi ≤ (n : Int)
    · rw [decide_eq_true hi'] at CH
      obtain ⟨a, rfl⟩ := Int.eq_ofNat_of_zero_le hi'.1
      obtain ⟨b, rfl⟩ := Int.eq_ofNat_of_zero_le (show 0 ≤ hi by omega)
      have hab : a ≤ b := by omega
      have hbn : b ≤ n := by omega
      clear hi'
      by_cases h0 : k < 0
      · have t0 : decide (k < 0) = true := by simpa using h0
        have HV := Lib.hid (wKth_out n Z (P.map LvA.val) a b k (by omega))
        clear Ht HT2 HOk h0
        go_wp2_with fail
        refine CH.out.mono ?_
        rintro e w3 ⟨rfl, rfl⟩
        go_wp2
        go_ret
        exact ⟨ret_int HV.out.symm, HB2.out⟩
      · have t0 : decide (k < 0) = false := by simpa using h0
        have e1 : IntKind.i64.wrap ((b : Int) - (a : Int)) = (b : Int) - (a : Int) := IntWalk.i64_in _ (by omega)
        by_cases h1 : (b : Int) - (a : Int) ≤ k
        · have t1 : decide ((b : Int) - (a : Int) ≤ k) = true := by simpa using h1
          have HV := Lib.hid (wKth_out n Z (P.map LvA.val) a b k (by omega))
          clear Ht HT2 HOk h0 h1
          go_wp2_with fail
          refine CH.out.mono ?_
          rintro e w3 ⟨rfl, rfl⟩
          go_wp2
          go_ret
          exact ⟨ret_int HV.out.symm, HB2.out⟩
        · have t1 : decide ((b : Int) - (a : Int) ≤ k) = false := by simpa using h1
          obtain ⟨j, rfl⟩ := Int.eq_ofNat_of_zero_le (show 0 ≤ k by omega)
          have HV := Lib.hid (wKth_in n Z P a b j HOk.out (by omega) hbn)
          have CK := Lib.hid (wkth_any g n a b j P w2 Ht.out (by omega) hbn)
          clear Ht HT2 HOk h0 h1
          go_wp2_with fail
          refine CH.out.mono ?_
          rintro e w3 ⟨rfl, rfl⟩
          go_wp2_with fail
          refine CK.out.mono ?_
          rintro e w4 ⟨rfl, hb4⟩
          have HB4 := Lib.hid (below_then HB2.out hb4)
          clear hb4
          go_wp2
          go_ret
          exact ⟨ret_int HV.out.symm, HB4.out⟩
    · rw [decide_eq_false hi'] at CH
      have HV := Lib.hid (wKth_out n Z (P.map LvA.val) lo hi k (fun h => hi' ⟨h.1, h.2.1, h.2.2.1⟩))
      clear Ht HT2 HOk hi'
      go_wp2_with fail
      refine CH.out.mono ?_
      rintro e w3 ⟨rfl, rfl⟩
      go_wp2
      go_ret
      exact ⟨ret_int HV.out.symm, HB2.out⟩

theorem implWaveRank_any (a : WaA) (x i : Int) (w : World) (hL : LiesWa w a) : Calls Try.prog 19 #[a.value, .int .i64 x, .int .i64 i] w fun e w' => e = .returned (.int .i64 (wRank a.N a.Z (a.P.map LvA.val) x i)) ∧ Below w.heap.size w w' := by
  obtain ⟨N, ZA, zc, Z, LA, lc, P⟩ := a
  exact implWaveRank_in N ZA zc _ Z LA lc _ P x i w hL rfl rfl

theorem implWaveLess_any (a : WaA) (x lo hi : Int) (w : World) (hL : LiesWa w a) : Calls Try.prog 18 #[a.value, .int .i64 x, .int .i64 lo, .int .i64 hi] w fun e w' => e = .returned (.int .i64 (wLess a.N a.Z (a.P.map LvA.val) x lo hi)) ∧ Below w.heap.size w w' := by
  obtain ⟨N, ZA, zc, Z, LA, lc, P⟩ := a
  exact implWaveLess_in N ZA zc _ Z LA lc _ P x lo hi w hL rfl rfl

theorem implWaveKth_any (a : WaA) (lo hi k : Int) (w : World) (hL : LiesWa w a) : Calls Try.prog 17 #[a.value, .int .i64 lo, .int .i64 hi, .int .i64 k] w fun e w' => e = .returned (.int .i64 (wKth a.N a.Z (a.P.map LvA.val) lo hi k)) ∧ Below w.heap.size w w' := by
  obtain ⟨N, ZA, zc, Z, LA, lc, P⟩ := a
  exact implWaveKth_in N ZA zc _ Z LA lc _ P lo hi k w hL rfl rfl

end Go.Proofs.Ytoehgcakfblblaa
