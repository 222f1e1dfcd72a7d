/- WaveList of the program (written by mkwv7.py). -/
import Derived.Test.YtoehgcakfblblaaDoorWv6
import Derived.Test.YtoehgcakfblblaaDoorNewI
namespace Go.Proofs.YtoehgcakfblblaaDoor
open Go.RowKit
set_option maxRecDepth 100000

set_option maxHeartbeats 3200000 in
theorem implWaveList_in (N : Int) (ZA : Option Addr) (zc l : Nat) (Z : List Int) (LA : Option Addr) (lc m : Nat) (P : List LvA) (w : World) (hL : LiesWa w ⟨N, ZA, zc, Z, LA, lc, P⟩) (hl : Z.length = l) (hm : P.length = m) :
    Calls Tryd.prog 9 #[.agg #[.int .i64 N, .slice ZA l zc, .slice LA m lc]] w (NewI w (wList N Z (P.map LvA.val))) := by
  have HC := Lib.hid fun (W : World) (hW : Below w.heap.size w W) => matrixOf_any ⟨N, ZA, zc, Z, LA, lc, P⟩ W (hL.below hW)
  have HL := Lib.hid hL
  unfold WaA.value MtxEnd at HC
  simp only at HC
  rw [hl, hm] at HC
  have hCs := WaA.cells_size ⟨N, ZA, zc, Z, LA, lc, P⟩
  have hCo := WaA.cells_one ⟨N, ZA, zc, Z, LA, lc, P⟩
  have HMx := Lib.hid fun (W : World) (g : Nat) (hx : Box W g 57 (WaA.cells ⟨N, ZA, zc, Z, LA, lc, P⟩)) (hok : WaA.ok ⟨N, ZA, zc, Z, LA, lc, P⟩ = true) (hb : Below w.heap.size w W) => mtx_box hx hok (HL.out.lev.below hb)
  have hzz := Tryd.zeroMtx
  have hCi : (Tryd.prog.info? 57).map (·.size) = some (WaA.cells ⟨N, ZA, zc, Z, LA, lc, P⟩).size := by rw [hCs]; exact Tryd.infoMtx
  have hCz : zeroM.size = (WaA.cells ⟨N, ZA, zc, Z, LA, lc, P⟩).size := by rw [hCs]; rfl
  simp only at HMx
  generalize WaA.cells ⟨N, ZA, zc, Z, LA, lc, P⟩ = M at *
  clear hL
  go_enter Tryd.func9, Tryd.ntmps9
  go_wp2_with fail
  refine (HC.out _ (by go_grown)).mono ?_
  rintro e w1 ⟨rfl, hb⟩
  have HB1 := Lib.hid (below_then (show Below w.heap.size w (w.alloc (.cells #[.int .i64 N, .slice ZA l zc, .slice LA m lc] 28)) by go_grown) hb)
  clear hb HC
  go_wp2_with (first | (refine wpList_alloc_agg rfl 57 zeroM rfl hzz ?_) | ((with_reducible show wpList _ _ _ (⟨none, .store 57 _ _, _, _, _, _⟩ :: _) _ _); with_reducible refine Hid.out ?_))
  refine Lib.hid ?_
  refine wpList_store_row (by rfl) 57 _ _ (by rfl) w1.heap.size M (by rfl) (by rfl) 57 zeroM (Box.made w1 57 zeroM) hCi hCz hCo ?_
  have hx := (Box.made w1 57 zeroM).row M
  have HB2 : Hid (Below w.heap.size w ((w1.alloc (.cells zeroM 57)).setRow w1.heap.size M)) := Lib.hid (below_setRow (HB1.out.alloc HB1.out.size _) HB1.out.size _)
  generalize hW2 : (w1.alloc (.cells zeroM 57)).setRow w1.heap.size M = w2 at *
  clear hW2 hzz hCi hCz hCo hCs HB1
  generalize w1.heap.size = g at *
  cases hok : WaA.ok ⟨N, ZA, zc, Z, LA, lc, P⟩
  · have HN : Hid (NewI w (wList N Z (P.map LvA.val)) (.returned (.slice none 0 0)) w2) := Lib.hid (by
      rw [show wList N Z (P.map LvA.val) = [] by unfold wList; rw [show wvOk N Z (P.map LvA.val) = false from hok]; rfl]
      exact ⟨none, 0, rfl, World.ownsRow_nil _ _ _ _, HB2.out⟩)
    clear hok hx HMx
    go_wp2
    go_ret
    exact HN.out
  · have HMt := HMx.out w2 g hx hok HB2.out
    obtain ⟨n, rfl⟩ := Int.eq_ofNat_of_zero_le (wvOk_n hok).1
    rw [Int.toNat_natCast] at HMt
    have hn := HMt.small
    have c27 := HMt.top
    have hgl := HMt.lt
    have HT2 := Lib.hid fun (W : World) (hW : Below w2.heap.size w2 W) => HMt.below hW
    have hwl : wList n Z (P.map LvA.val) = listW n (lvs P) := by
      unfold wList wB
      rw [if_pos (show wvOk n Z (P.map LvA.val) = true from hok), wLs_val]
      rfl
    obtain ⟨L, hL⟩ : ∃ L, listW n (lvs P) = L := ⟨_, rfl⟩
    have hLl : L.length = n := by rw [← hL, listW_len]
    have HG : Hid (∀ k, k < n → L[k]? = some (numW n (lvs P) k : Int)) := Lib.hid fun k hk => by rw [← hL]; exact listW_get n (lvs P) k hk
    have HWL := Lib.hid (hwl.trans hL)
    have HLl := Lib.hid hLl
    have hmk := fun W => run_make_row' (P := Tryd.prog) 24 3 (.int .i64 0) 8 Tryd.underlying24 Tryd.infoInt rfl .i64 .i64 n (by omega) (by omega) W
    have HO0 : Hid ((w2.alloc (.cells (madeCells #[Value.int .i64 0] n) 3)).ownsRow w2.heap.size 3 1 (.slice (some ⟨w2.heap.size, 0, none⟩) n n) n (copied I (I 0) L 0)) := Lib.hid (by
      rw [copied_zero, hLl, ← toList_madeCells_one]
      exact World.ownsRow_lit w2 _ _ (Nat.le_refl _) (by unfold maxLen; omega) (by simp [size_madeCells]))
    have HBm : Hid (Below w2.heap.size w2 (w2.alloc (.cells (madeCells #[Value.int .i64 0] n) 3))) := Lib.hid ((Below.refl _ _).alloc (Nat.le_refl _) _)
    clear hx HMx HMt hok hwl hL hLl
    go_wp2
    clear c27 hgl hmk
    generalize w2.alloc (.cells (madeCells #[Value.int .i64 0] n) 3) = w3 at *
    obtain ⟨s, hs⟩ : ∃ s, w2.heap.size = s := ⟨_, rfl⟩
    rw [hs] at HO0 HBm HT2
    rw [hs]
    have HS := Lib.hid hs
    clear hs
    go_loopw [19] (fun i wr => ∃ k : Nat, k ≤ n ∧ i = .int .i64 k ∧ Hid (wr.ownsRow s 3 1 (.slice (some ⟨s, 0, none⟩) n n) n (copied I (I 0) L k)) ∧ Hid (Below s w2 wr)) (fun i _ => n - (intOf i).toNat)
    case atStart => exact ⟨0, Nat.zero_le _, rfl, HO0, HBm⟩
    case round =>
      obtain ⟨k, hk, rfl, HO, HB⟩ := hrel
      clear HO0 HBm
      by_cases hlt : k < n
      · have CN := Lib.hid (number_any g n k P wr (HT2.out wr HB.out) hlt)
        obtain ⟨x, hx⟩ : ∃ x : Int, (numW n (lvs P) k : Int) = x := ⟨_, rfl⟩
        have HGk := Lib.hid (HG.out k hlt)
        rw [hx] at CN HGk
        clear hx
        go_wp2_with fail
        refine CN.out.mono ?_
        rintro e w4 ⟨rfl, hb4⟩
        have HO4 := Lib.hid (own_below HO.out hb4 (Nat.le_refl _))
        have hd := (HO4.out.cellAt k (by omega)).trans (copied_get (f := I) (I 0) L k (by rw [HLl.out]; exact hlt))
        have hf := HO4.out.frozenAt k
        have HB4 := Lib.hid (HB.out.trans (hb4.mono (by rw [← HS.out]; have := HB.out.size; exact this)))
        have HO5 : Hid ((w4.setCell ⟨s, k, none⟩ (I x)).ownsRow s 3 1 (.slice (some ⟨s, 0, none⟩) n n) n (copied I (I 0) L (k + 1))) := Lib.hid (by
          rw [copied_succ (f := I) (I 0) L k x HGk.out]
          exact (HO4.out.stored k _).1)
        have HB5 := Lib.hid (HB4.out.setCell (p := ⟨s, k, none⟩) (Nat.le_refl _) (I x))
        have k0 : (0 : Int) ≤ (k : Int) := by omega
        have k1 : (k : Int) < (n : Int) := by omega
        clear hb4 HO
        go_wp2
        go_roundw
        case rel => exact ⟨k + 1, by omega, by go_num, HO5, HB5⟩
        case measure => simp [intOf]; omega
      · obtain rfl : k = n := by omega
        have HF : Hid (NewI w L (.returned (.slice (some ⟨s, 0, none⟩) k k)) wr) := Lib.hid (by
          have h := HO.out
          have ea := copied_all (f := I) (I 0) L
          rw [HLl.out] at ea
          rw [ea] at h
          exact newI_own (own_mono h (by rw [← HS.out]; exact HB2.out.size)) HLl.out (below_then HB2.out (by rw [HS.out]; exact HB.out)))
        clear HO
        go_wp2
        go_ret
        rw [HWL.out]
        exact HF.out

theorem implWaveList_any (a : WaA) (w : World) (hL : LiesWa w a) : Calls Tryd.prog 9 #[a.value] w (NewI w (wList a.N a.Z (a.P.map LvA.val))) := by
  obtain ⟨N, ZA, zc, Z, LA, lc, P⟩ := a
  exact implWaveList_in N ZA zc _ Z LA lc _ P w hL rfl rfl

end Go.Proofs.YtoehgcakfblblaaDoor
