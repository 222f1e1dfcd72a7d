/- The law FnSparse walked. -/
import Derived.Test.YtlbnngolcoefdaaDoorDrawSp
import Derived.Test.YtlbnngolcoefdaaDoorSpBack
import Derived.Test.YtlbnngolcoefdaaDoorSp18
import Derived.Test.YtlbnngolcoefdaaDoorSame1
namespace Go.Proofs.YtlbnngolcoefdaaDoor
open Go.RowKit
set_option maxRecDepth 100000

set_option maxHeartbeats 6400000 in
theorem lawSparse (A0 : Option Addr) (c0 : Nat) (D0 : List Nat) (w : World) (hL : Lies w B8 A0 D0) (hw : ∀ x ∈ D0, x < 2 ^ 8) (hbig : D0.length ≤ 1048576) (hT : Tab w) :
    Calls Tryd.prog 3 #[.slice A0 D0.length c0] w fun e w' => e = .returned (.bool true) ∧ Below w.heap.size w w' := by
  have HL := Lib.hid hL
  have HW := Lib.hid hw
  have HT := Lib.hid hT
  clear hL hw hT
  have tb : decide (1048576 < D0.length) = false := by simp; omega
  go_enter Tryd.func3, Tryd.ntmps3
  go_wp2_with fail
  refine (big_any A0 D0.length c0 w).mono ?_
  rintro e w1 ⟨rfl, rfl⟩
  rw [tb]
  go_wp2_with fail
  refine (drawSparseOf_any A0 c0 D0 w HL.out HW.out hbig).mono ?_
  rintro e w1 ⟨v1, B, u, rfl, ho1, hl1, hu1, hb1⟩
  obtain ⟨A1, c1, rfl⟩ := own_slice ho1
  have HLB : Hid (Lies w1 I A1 B) := Lib.hid (Lies.of_own ho1)
  have HB1 := Lib.hid hb1
  have HT1 := Lib.hid (HT.out.below hb1)
  clear ho1 hb1 HT tb
  have hsp := specSparse_any A1 c1 B u w1 HLB.out (by omega)
  have him := fun W (h : Below w1.heap.size w1 W) => implSparse_any A1 c1 B u W (HLB.out.below h) (by omega)
  unfold SparseRes at hsp him
  cases hok : spOk B u with
  | false =>
    rw [hok] at hsp him
    generalize spU B u = V at *
    generalize spN B u = N at *
    generalize spP B u = P at *
    generalize spM B u = M at *
    generalize spK B u = K at *
    generalize spW B u = Ws at *
    generalize spH B u = H at *
    generalize spV B u = Vs at *
    have HSp := Lib.hid hsp
    have HIm := Lib.hid him
    clear hsp him hok
    go_wp2_with fail
    refine HSp.out.mono ?_
    rintro e w2 ⟨A2, c2, A2', c2', rfl, tr2⟩
    have sc := (Scene.start w1).rows tr2
    clear tr2
    go_wp2_with fail
    replace sc := sc.box 33 #[.int .i64 V, .int .i64 N, .int .i64 P, .int .i64 M, .int .i64 K, .slice A2 Ws.length c2, .int .i64 H, .slice A2' Vs.length c2']
    generalize w2.alloc (Obj.cells #[.int .i64 V, .int .i64 N, .int .i64 P, .int .i64 M, .int .i64 K, .slice A2 Ws.length c2, .int .i64 H, .slice A2' Vs.length c2'] 33) = w3 at *
    refine (HIm.out w3 sc.below).mono ?_
    rintro e w4 ⟨A4, c4, A4', c4', rfl, tr4⟩
    replace sc := sc.rows tr4
    have HB4 := Lib.hid sc.below
    clear tr4 sc HSp HIm
    go_wp2
    go_ret
    exact ⟨rfl, HB1.out.trans ((HB4.out.alloc HB4.out.size _).mono HB1.out.size)⟩
  | true =>
    obtain ⟨V, N, P, M, K, Ws, H, Vs, e1, e2, e3, e4, e5, e6, e7, e8, hWs, hVs, hokS, hsl, hrk, hl5, hN5, hall⟩ := sparse_law hok
    rw [hok, e1, e2, e3, e4, e5, e6, e7, e8] at hsp him
    have HSp := Lib.hid hsp
    have HIm := Lib.hid him
    have HWs := Lib.hid hWs
    have HVs := Lib.hid hVs
    have HOk := Lib.hid hokS
    have HSl := Lib.hid hsl
    have HRk := Lib.hid hrk
    have HAll := Lib.hid hall
    clear hsp him hok e1 e2 e3 e4 e5 e6 e7 e8 hWs hVs hokS hsl hrk hall
    have hN63 : N ≤ 9223372036854775807 := by omega
    go_wp2_with fail
    refine HSp.out.mono ?_
    rintro e w2 ⟨A2, c2, A2', c2', rfl, tr2⟩
    have sc := (Scene.start w1).rows tr2
    clear tr2
    go_wp2_with fail
    replace sc := sc.box 33 #[.int .i64 V, .int .i64 N, .int .i64 P, .int .i64 M, .int .i64 K, .slice A2 Ws.length c2, .int .i64 H, .slice A2' Vs.length c2']
    generalize w2.alloc (Obj.cells #[.int .i64 V, .int .i64 N, .int .i64 P, .int .i64 M, .int .i64 K, .slice A2 Ws.length c2, .int .i64 H, .slice A2' Vs.length c2'] 33) = w3 at *
    generalize w2.heap.size = s2 at *
    refine (HIm.out w3 sc.below).mono ?_
    rintro e w4 ⟨A4, c4, A4', c4', rfl, tr4⟩
    replace sc := sc.rows tr4
    clear tr4 HSp HIm
    go_wp2_with fail
    replace sc := sc.box 33 #[.int .i64 V, .int .i64 N, .int .i64 P, .int .i64 M, .int .i64 K, .slice A4 Ws.length c4, .int .i64 H, .slice A4' Vs.length c4']
    generalize w4.alloc (Obj.cells #[.int .i64 V, .int .i64 N, .int .i64 P, .int .i64 M, .int .i64 K, .slice A4 Ws.length c4, .int .i64 H, .slice A4' Vs.length c4'] 33) = w5 at *
    generalize w4.heap.size = sx at *
    refine (implSparseList_any V N P M K H A4 A4' c4 c4' Ws Vs w5 (by exact sc.lies 2 rfl) (by exact sc.lies 1 rfl) HWs.out HVs.out hN63 (by exact row_capS (sc.getRow 1 rfl))).mono ?_
    rw [HSl.out]
    rintro e w6 ⟨Al, cl, rfl, hol, hbl⟩
    replace sc := sc.row hbl hol
    clear hol hbl
    obtain ⟨⟨f0, f1, f2, f3, f4, f5, f6, f7⟩, _, fl⟩ := box_eight (sc.getBox 1 rfl)
    go_wp2_with fail
    refine (sameInt Al A1 cl c1 B B w6 (by exact sc.lies 0 rfl) (sc.liesOld HLB.out) (by omega)).mono ?_
    rintro e w7 ⟨rfl, q7, rfl⟩
    rw [decide_eq_true rfl]
    replace sc := sc.draw q7
    clear f0 f1 f2 f3 f4 f5 f6 f7 fl
    generalize w6.drewN q7 = w7 at *
    obtain ⟨⟨f0, f1, f2, f3, f4, f5, f6, f7⟩, _, fl⟩ := box_eight (sc.getBox 1 rfl)
    go_wp2_with fail
    refine (implSparseOk_any V N P M K H A4 A4' c4 c4' Ws Vs w7 (by exact sc.lies 3 rfl) (by exact sc.lies 2 rfl) HWs.out HVs.out hN63 (by exact row_capS (sc.getRow 2 rfl))).mono ?_
    rw [HOk.out]
    rintro e w8 ⟨rfl, hb⟩
    replace sc := sc.step hb
    clear hb f0 f1 f2 f3 f4 f5 f6 f7 fl
    obtain ⟨⟨f0, f1, f2, f3, f4, f5, f6, f7⟩, _, fl⟩ := box_eight (sc.getBox 1 rfl)
    go_wp2_with fail
    refine (implSparseRank_any V N P M K H A4 A4' c4 c4' Ws Vs u w8 (by exact sc.lies 3 rfl) (by exact sc.lies 2 rfl) HWs.out HVs.out hN63 (by exact row_capS (sc.getRow 2 rfl))).mono ?_
    rw [HRk.out]
    rintro e w9 ⟨rfl, hb⟩
    replace sc := sc.step hb
    clear hb f0 f1 f2 f3 f4 f5 f6 f7 fl
    obtain ⟨⟨f0, f1, f2, f3, f4, f5, f6, f7⟩, _, fl⟩ := box_eight (sc.getBox 1 rfl)
    obtain ⟨n, hn⟩ : ∃ n, B.length = n := ⟨_, rfl⟩
    have Hn := Lib.hid hn
    rw [hn] at hl1 hl5 ⊢
    clear hn
    have hLW := sc.lies 3 rfl (f := U) (A := A4) (L := Ws)
    have hLV := sc.lies 2 rfl (f := U) (A := A4') (L := Vs)
    have hcap := row_capS (sc.getRow 2 rfl)
    have HL9 := Lib.hid (sc.liesOld HLB.out)
    have HB9 := Lib.hid sc.below
    have HT9 := Lib.hid (HT1.out.below sc.below)
    have HS9 : Hid (∀ W, Below w9.heap.size w9 W → W.cell? ⟨sx, 0, none⟩ = some (.int .i64 V) ∧ W.cell? ⟨sx, 1, none⟩ = some (.int .i64 N) ∧ W.cell? ⟨sx, 2, none⟩ = some (.int .i64 P) ∧ W.cell? ⟨sx, 3, none⟩ = some (.int .i64 M) ∧ W.cell? ⟨sx, 4, none⟩ = some (.int .i64 K) ∧ W.cell? ⟨sx, 5, none⟩ = some (.slice A4 Ws.length c4) ∧ W.cell? ⟨sx, 6, none⟩ = some (.int .i64 H) ∧ W.cell? ⟨sx, 7, none⟩ = some (.slice A4' Vs.length c4')) := Lib.hid fun W hW =>
      ⟨(hW.cell (p := ⟨_, 0, none⟩) fl).trans f0, (hW.cell (p := ⟨_, 1, none⟩) fl).trans f1, (hW.cell (p := ⟨_, 2, none⟩) fl).trans f2, (hW.cell (p := ⟨_, 3, none⟩) fl).trans f3, (hW.cell (p := ⟨_, 4, none⟩) fl).trans f4, (hW.cell (p := ⟨_, 5, none⟩) fl).trans f5, (hW.cell (p := ⟨_, 6, none⟩) fl).trans f6, (hW.cell (p := ⟨_, 7, none⟩) fl).trans f7⟩
    have CR9 : Hid (∀ W, Below w9.heap.size w9 W → ∀ x : Int, Calls Tryd.prog 17 #[SP V N P M K (.slice A4 Ws.length c4) H (.slice A4' Vs.length c4'), .int .i64 x] W fun e w' => e = .returned (.int .i64 (srV V N P M K Ws H Vs x)) ∧ Below w9.heap.size w9 w') := Lib.hid fun W hW x =>
      (implSparseRank_any V N P M K H A4 A4' c4 c4' Ws Vs x W (hLW.below hW) (hLV.below hW) HWs.out HVs.out hN63 hcap).mono fun e w' h => ⟨h.1, hW.trans (h.2.mono hW.size)⟩
    have CA9 : Hid (∀ W, Below w9.heap.size w9 W → ∀ k : Nat, (k : Int) ≤ 9223372036854775807 → Calls Tryd.prog 18 #[SP V N P M K (.slice A4 Ws.length c4) H (.slice A4' Vs.length c4'), .int .i64 k] W fun e w' => e = .returned (.int .i64 (satV V N P M K Ws H Vs k)) ∧ Below w9.heap.size w9 w') := Lib.hid fun W hW k hk =>
      (implSparseAt_any V N P M K H A4 A4' c4 c4' Ws Vs k W (hLW.below hW) (hLV.below hW) HWs.out HVs.out hN63 hcap hk (HT9.out.below hW)).mono fun e w' h => ⟨h.1, hW.trans (h.2.mono hW.size)⟩
    have CH9 : Hid (∀ W, Below w9.heap.size w9 W → ∀ x : Int, Calls Tryd.prog 19 #[SP V N P M K (.slice A4 Ws.length c4) H (.slice A4' Vs.length c4'), .int .i64 x] W fun e w' => e = .returned (.bool (shV V N P M K Ws H Vs x)) ∧ Below w9.heap.size w9 w') := Lib.hid fun W hW x =>
      (implSparseHas_any V N P M K H A4 A4' c4 c4' Ws Vs x W (hLW.below hW) (hLV.below hW) HWs.out HVs.out hN63 hcap (HT9.out.below hW)).mono fun e w' h => ⟨h.1, hW.trans (h.2.mono hW.size)⟩
    clear sc hLW hLV hcap f0 f1 f2 f3 f4 f5 f6 f7 fl HT1 HOk HSl HRk HWs HVs
    have tn : ((n : Int) != (n : Int)) = false := by simp
    go_wp2
    go_loopw [9] (fun i wr => ∃ k : Nat, k ≤ n ∧ i = .int .i64 k ∧ Hid (Below w9.heap.size w9 wr)) (fun i _ => n - (intOf i).toNat)
    case atStart => exact ⟨0, Nat.zero_le _, rfl, Lib.hid (Below.refl _ _)⟩
    case round =>
      obtain ⟨k, hk, rfl, HI⟩ := hrel
      by_cases hlt : k < n
      · obtain ⟨b1, o1, x, rfl, hbl, hx, hcx⟩ := HL9.out.at_ (i := k) (by rw [Hn.out]; exact hlt)
        obtain ⟨r, hr1, hr2, hr3, hr4, hr5⟩ := HAll.out k x hx
        obtain ⟨b2, o2, hA, _, hcr⟩ := HL9.out r x hr3
        have eA := Option.some.inj hA
        injection eA with eA1 eA2
        subst eA1 eA2
        have hrn : r < n := by omega
        have CR : Hid (∀ W, Below w9.heap.size w9 W → Calls Tryd.prog 17 #[SP V N P M K (.slice A4 Ws.length c4) H (.slice A4' Vs.length c4'), .int .i64 x] W fun e w' => e = .returned (.int .i64 (r : Int)) ∧ Below w9.heap.size w9 w') := Lib.hid fun W hW => by
          have h := CR9.out W hW x
          rw [hr1] at h
          exact h
        have CA : Hid (∀ W, Below w9.heap.size w9 W → Calls Tryd.prog 18 #[SP V N P M K (.slice A4 Ws.length c4) H (.slice A4' Vs.length c4'), .int .i64 k] W fun e w' => e = .returned (.int .i64 x) ∧ Below w9.heap.size w9 w') := Lib.hid fun W hW => by
          have h := CA9.out W hW k (by omega)
          rw [hr4] at h
          exact h
        have CH : Hid (∀ W, Below w9.heap.size w9 W → Calls Tryd.prog 19 #[SP V N P M K (.slice A4 Ws.length c4) H (.slice A4' Vs.length c4'), .int .i64 x] W fun e w' => e = .returned (.bool true) ∧ Below w9.heap.size w9 w') := Lib.hid fun W hW => by
          have h := CH9.out W hW x
          rw [hr5] at h
          exact h
        have HS : Hid (∀ W, Below w9.heap.size w9 W → W.cell? ⟨sx, 0, none⟩ = some (.int .i64 V) ∧ W.cell? ⟨sx, 1, none⟩ = some (.int .i64 N) ∧ W.cell? ⟨sx, 2, none⟩ = some (.int .i64 P) ∧ W.cell? ⟨sx, 3, none⟩ = some (.int .i64 M) ∧ W.cell? ⟨sx, 4, none⟩ = some (.int .i64 K) ∧ W.cell? ⟨sx, 5, none⟩ = some (.slice A4 Ws.length c4) ∧ W.cell? ⟨sx, 6, none⟩ = some (.int .i64 H) ∧ W.cell? ⟨sx, 7, none⟩ = some (.slice A4' Vs.length c4') ∧ W.cell? ⟨b1, o1 + k, none⟩ = some (.int .i64 x) ∧ W.cell? ⟨b1, o1 + r, none⟩ = some (.int .i64 x)) := Lib.hid fun W hW => by
          obtain ⟨x0, x1, x2, x3, x4, x5, x6, x7⟩ := HS9.out W hW
          exact ⟨x0, x1, x2, x3, x4, x5, x6, x7, (hW.cell (p := ⟨_, o1 + k, none⟩) hbl).trans hcx, (hW.cell (p := ⟨_, o1 + r, none⟩) hbl).trans hcr⟩
        have tl : decide ((k : Int) < (n : Int)) = true := by simp; omega
        have k0 : (0 : Int) ≤ (k : Int) := by omega
        have k1 : (k : Int) < (n : Int) := by omega
        have r0 : (0 : Int) ≤ (r : Int) := by omega
        have r1 : (r : Int) < (n : Int) := by omega
        have r2 : decide ((k : Int) < (r : Int)) = false := by simp; omega
        have r2n : decide (k < r) = false := by simp; omega
        have r3 : decide ((r : Int) < 0) = false := by simp
        have xx : (x != x) = false := by simp
        have inv : Below w9.heap.size w9 wr.drew := HI.out.drew
        clear hx hcx hr1 hr3 hr4 hr5 hA hcr hbl
        obtain ⟨x0, x1, x2, x3, x4, x5, x6, x7, y0, y1⟩ := HS.out _ inv
        go_wp2_with fail
        go_region_held3 (fun w' => w'.cell? ⟨sx, 0, none⟩ = some (.int .i64 V) ∧ w'.cell? ⟨sx, 1, none⟩ = some (.int .i64 N) ∧ w'.cell? ⟨sx, 2, none⟩ = some (.int .i64 P) ∧ w'.cell? ⟨sx, 3, none⟩ = some (.int .i64 M) ∧ w'.cell? ⟨sx, 4, none⟩ = some (.int .i64 K) ∧ w'.cell? ⟨sx, 5, none⟩ = some (.slice A4 Ws.length c4) ∧ w'.cell? ⟨sx, 6, none⟩ = some (.int .i64 H) ∧ w'.cell? ⟨sx, 7, none⟩ = some (.slice A4' Vs.length c4') ∧ w'.cell? ⟨b1, o1 + k, none⟩ = some (.int .i64 x) ∧ w'.cell? ⟨b1, o1 + r, none⟩ = some (.int .i64 x)) (first | exact HS.out _ inv | go_keep) ((go_at_call 17; (with_reducible refine Calls.mono (CR.out _ inv) ?_); rintro e w10 ⟨rfl, inv2⟩; replace inv := inv2; clear inv2; obtain ⟨x0, x1, x2, x3, x4, x5, x6, x7, y0, y1⟩ := HS.out _ inv))
        replace inv := inv.drew
        go_wp2_with fail
        go_region_held3 (fun w' => w'.cell? ⟨sx, 0, none⟩ = some (.int .i64 V) ∧ w'.cell? ⟨sx, 1, none⟩ = some (.int .i64 N) ∧ w'.cell? ⟨sx, 2, none⟩ = some (.int .i64 P) ∧ w'.cell? ⟨sx, 3, none⟩ = some (.int .i64 M) ∧ w'.cell? ⟨sx, 4, none⟩ = some (.int .i64 K) ∧ w'.cell? ⟨sx, 5, none⟩ = some (.slice A4 Ws.length c4) ∧ w'.cell? ⟨sx, 6, none⟩ = some (.int .i64 H) ∧ w'.cell? ⟨sx, 7, none⟩ = some (.slice A4' Vs.length c4') ∧ w'.cell? ⟨b1, o1 + k, none⟩ = some (.int .i64 x) ∧ w'.cell? ⟨b1, o1 + r, none⟩ = some (.int .i64 x)) (first | exact HS.out _ inv | go_keep) (first | (go_at_call 18; (with_reducible refine Calls.mono (CA.out _ inv) ?_); rintro e w11 ⟨rfl, inv2⟩; replace inv := inv2; clear inv2; obtain ⟨x0, x1, x2, x3, x4, x5, x6, x7, y0, y1⟩ := HS.out _ inv) | (go_at_call 19; (with_reducible refine Calls.mono (CH.out _ inv) ?_); rintro e w12 ⟨rfl, inv2⟩; replace inv := inv2; clear inv2; obtain ⟨x0, x1, x2, x3, x4, x5, x6, x7, y0, y1⟩ := HS.out _ inv))
        have HJ := Lib.hid inv
        clear inv x0 x1 x2 x3 x4 x5 x6 x7 y0 y1 CR CA CH HS
        go_wp2
        go_roundw
        case rel => exact ⟨k + 1, by omega, by go_num, HJ⟩
        case measure => simp [intOf]; omega
      · have HBk := Lib.hid (HB1.out.trans ((HB9.out.trans (HI.out.mono HB9.out.size)).mono HB1.out.size))
        go_wp2
        go_ret
        exact ⟨rfl, HBk.out⟩

end Go.Proofs.YtlbnngolcoefdaaDoor
