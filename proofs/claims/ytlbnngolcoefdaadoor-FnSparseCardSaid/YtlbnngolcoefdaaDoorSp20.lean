import Derived.Test.YtlbnngolcoefdaaDoorSp16
import Derived.Test.YtlbnngolcoefdaaDoorSel6
import Derived.Test.YtlbnngolcoefdaaDoorSelMath2
/- SparseAt: the specification's. -/
namespace Go.Proofs.YtlbnngolcoefdaaDoor
open Go.RowKit
set_option maxRecDepth 100000

/-- What SparseAt is to return. -/
def satV (V N P M K : Int) (Ws : List Nat) (H : Int) (Vs : List Nat) (k : Int) : Int := if 0 ≤ k ∧ k < ((slV V N P M K Ws H Vs).length : Int) then ((slV V N P M K Ws H Vs)[k.toNat]?).getD 0 else -1

set_option maxHeartbeats 800000 in
theorem specSparseAt_any (V N P M K H : Int) (A A' : Option Addr) (c c' : Nat) (Ws Vs : List Nat) (k : Int) (w : World) (hL : Lies w U A Ws) (hL' : Lies w U A' Vs) (hw : ∀ x ∈ Ws, x < 2 ^ 64) (hw' : ∀ x ∈ Vs, x < 2 ^ 64) :
    Calls Tryd.prog 31 #[SP V N P M K (.slice A Ws.length c) H (.slice A' Vs.length c'), .int .i64 k] w fun e w' => e = .returned (.int .i64 (satV V N P M K Ws H Vs k)) ∧ Below w.heap.size w w' := by
  have HL := Lib.hid hL
  have HL' := Lib.hid hL'
  have HW := Lib.hid hw
  have HW' := Lib.hid hw'
  have HV : Hid (satV V N P M K Ws H Vs k = if 0 ≤ k ∧ k < ((slV V N P M K Ws H Vs).length : Int) then ((slV V N P M K Ws H Vs)[k.toNat]?).getD 0 else -1) := Lib.hid rfl
  have hBl := slV_len V N P M K Ws H Vs
  clear hL hL' hw hw'
  go_enter Tryd.func31, Tryd.ntmps31
  go_wp2_with fail
  have sc := (Scene.start w).box 33 (SPC V N P M K (.slice A Ws.length c) H (.slice A' Vs.length c'))
  generalize w.alloc (Obj.cells (SPC V N P M K (.slice A Ws.length c) H (.slice A' Vs.length c')) 33) = w1 at *
  refine (specSparseList_any V N P M K H A A' c c' Ws Vs _ (sc.liesOld HL.out) (sc.liesOld HL'.out) HW.out HW'.out).mono ?_
  rintro e w3 ⟨Al, cl, rfl, ho, hb3⟩
  have HLi := Lib.hid (Lies.of_own ho)
  have HB := Lib.hid (below_then sc.below hb3)
  clear sc ho hb3
  generalize slV V N P M K Ws H Vs = B at *
  by_cases h0 : k < 0
  · have t0 : decide (k < 0) = true := by simpa using h0
    rw [if_neg (by omega)] at HV
    go_wp2
    go_ret
    exact ⟨ret_int HV.out.symm, HB.out⟩
  · have t0 : decide (k < 0) = false := by simpa using h0
    obtain ⟨j, rfl⟩ := Int.eq_ofNat_of_zero_le (show 0 ≤ k by omega)
    by_cases h1 : j < B.length
    · obtain ⟨b, o, y, hA, hbl, hy, hc⟩ := HLi.out.at_ h1
      subst hA
      rw [if_pos (by omega), Int.toNat_natCast, hy, Option.getD_some] at HV
      have t1 : decide ((B.length : Int) ≤ (j : Int)) = false := by simp; omega
      have t1n : decide (B.length ≤ j) = false := by simp; omega
      clear hy
      go_wp2
      go_ret
      exact ⟨ret_int HV.out.symm, HB.out⟩
    · have t1 : decide ((B.length : Int) ≤ (j : Int)) = true := by simp; omega
      have t1n : decide (B.length ≤ j) = true := by simp; omega
      rw [if_neg (by omega)] at HV
      go_wp2
      go_ret
      exact ⟨ret_int HV.out.symm, HB.out⟩

end Go.Proofs.YtlbnngolcoefdaaDoor

/- SparseAt of the program (door seat). -/
namespace Go.Proofs.YtlbnngolcoefdaaDoor
open Go.RowKit
set_option maxRecDepth 100000

theorem okS_count {V N P M K : Int} {Ws : List Nat} {H : Int} {Vs : List Nat} (h : okS V N P M K Ws H Vs = true) : ((slV V N P M K Ws H Vs).length : Int) = N ∧ 0 ≤ N ∧ N ≤ 5000 := by
  obtain ⟨wd, hn, rfl, rfl, h20, h5, hp, hob, hc, hs, hBl⟩ := okS_parts h
  have hMN : M = N := by
    unfold okS at h
    simp only [Bool.and_eq_true, decide_eq_true_iff] at h
    exact h.2.2.2.1.1
  have h0 : slV V N (wd : Int) M K Ws (hn : Int) Vs = splV (wd : Int) M K Ws (hn : Int) Vs := by unfold slV; rw [h]; rfl
  rw [h0]
  have hl := pl_count hp
  unfold splV at hBl ⊢
  rw [spl_len, Int.toNat_natCast] at hBl ⊢
  omega

/-- The number j of a valid sparse list: where its bit is, and what it is. -/
theorem okS_at {V N P M K : Int} {Ws : List Nat} {H : Int} {Vs : List Nat} (h : okS V N P M K Ws H Vs = true) {j : Nat} (hj : (j : Int) < N) :
    ∃ p : Nat, selV H Vs 1 j = p ∧ p ≤ 5000 ∧ j ≤ p ∧ satV V N P M K Ws H Vs j = ((p : Int) - j) * 2 ^ P.toNat + paV P M K Ws j := by
  obtain ⟨hlen, h0, hN5⟩ := okS_count h
  obtain ⟨wd, hn, rfl, rfl, h20, h5, hp, hob, hc, hs, hBl⟩ := okS_parts h
  have hMN : M = N := by
    unfold okS at h
    simp only [Bool.and_eq_true, decide_eq_true_iff] at h
    exact h.2.2.2.1.1
  obtain ⟨p, hp1, hp2, hp3⟩ := cntS_reach Vs hn j (by omega)
  have hsum := cnt_sum Vs p
  have hl := pl_count hp
  have hlow : (plV (wd : Int) M K Ws)[cnt Vs 1 p]? = some (paV (wd : Int) M K Ws j) := by
    unfold plV paV
    rw [if_pos hp, if_pos ⟨hp, by omega, by omega⟩, hp3]
    simp only [Int.toNat_natCast]
    exact unpack_get _ _ _ _ (by omega)
  have hx := spl_has (wd : Int).toNat (plV (wd : Int) M K Ws) Vs hn p _ hp1 hp2 hlow
  refine ⟨p, ?_, by omega, by omega, ?_⟩
  · unfold selV
    rw [if_pos ⟨hob, .inr rfl, by omega⟩, Int.toNat_natCast, Int.toNat_natCast]
    exact selI_some Vs 1 hn j p hp1 (by omega) hp3
  · unfold satV
    rw [if_pos ⟨by omega, by omega⟩]
    have e0 : slV V N (wd : Int) M K Ws (hn : Int) Vs = spl (wd : Int).toNat (plV (wd : Int) M K Ws) Vs hn := by unfold slV; rw [h]; rfl
    rw [hp3] at hx
    simp only [Int.toNat_natCast] at hx e0 ⊢
    rw [e0, hx, Option.getD_some]
    have : (cnt Vs 0 p : Int) = (p : Int) - j := by omega
    rw [this]

set_option maxHeartbeats 1600000 in
theorem implSparseAt_any (V N P M K H : Int) (A A' : Option Addr) (c c' : Nat) (Ws Vs : List Nat) (k : Int) (w : World) (hL : Lies w U A Ws) (hL' : Lies w U A' Vs) (hw : ∀ x ∈ Ws, x < 2 ^ 64) (hw' : ∀ x ∈ Vs, x < 2 ^ 64) (hN : N ≤ 9223372036854775807) (hlc : Vs.length ≤ c' ∧ c' ≤ 9223372036854775807) (hk : k ≤ 9223372036854775807) (hT : Tab w) :
    Calls Tryd.prog 18 #[SP V N P M K (.slice A Ws.length c) H (.slice A' Vs.length c'), .int .i64 k] w fun e w' => e = .returned (.int .i64 (satV V N P M K Ws H Vs k)) ∧ Below w.heap.size w w' := by
  have HL := Lib.hid hL
  have HL' := Lib.hid hL'
  have HW := Lib.hid hw
  have HW' := Lib.hid hw'
  have HTb := Lib.hid hT
  clear hL hL' hw hw' hT
  go_enter Tryd.func18, Tryd.ntmps18
  go_wp2_with fail
  have sc := (Scene.start w).box 33 (SPC V N P M K (.slice A Ws.length c) H (.slice A' Vs.length c'))
  generalize w.alloc (Obj.cells (SPC V N P M K (.slice A Ws.length c) H (.slice A' Vs.length c')) 33) = w1 at *
  refine (implSparseOk_any V N P M K H A A' c c' Ws Vs _ (sc.liesOld HL.out) (sc.liesOld HL'.out) HW.out HW'.out hN hlc).mono ?_
  rintro e w2 ⟨rfl, hb⟩
  replace sc := sc.step hb
  clear hb
  obtain ⟨⟨p0, p1, p2, p3, p4, p5, p6, p7⟩, _, hbl⟩ := box_eight (sc.getBox 0 rfl)
  cases hok : okS V N P M K Ws H Vs
  · have HV : Hid (satV V N P M K Ws H Vs k = -1) := Lib.hid (by
      unfold satV
      rw [if_neg]
      have : slV V N P M K Ws H Vs = [] := by unfold slV; rw [hok]; rfl
      rw [this]
      simp only [List.length_nil]
      omega)
    have HB := Lib.hid sc.below
    clear sc
    go_wp2
    go_ret
    exact ⟨ret_int HV.out.symm, HB.out⟩
  · obtain ⟨hlen, hN0, hN5⟩ := okS_count hok
    by_cases h0 : k < 0
    · have t0 : decide (k < 0) = true := by simpa using h0
      have HV : Hid (satV V N P M K Ws H Vs k = -1) := Lib.hid (by unfold satV; rw [if_neg (by omega)])
      have HB := Lib.hid sc.below
      clear sc
      go_wp2
      go_ret
      exact ⟨ret_int HV.out.symm, HB.out⟩
    · have t0 : decide (k < 0) = false := by simpa using h0
      by_cases h1 : N ≤ k
      · have t1 : decide (N ≤ k) = true := by simpa using h1
        have HV : Hid (satV V N P M K Ws H Vs k = -1) := Lib.hid (by unfold satV; rw [if_neg (by omega)])
        have HB := Lib.hid sc.below
        clear sc
        go_wp2
        go_ret
        exact ⟨ret_int HV.out.symm, HB.out⟩
      · have t1 : decide (N ≤ k) = false := by simpa using h1
        obtain ⟨j, rfl⟩ := Int.eq_ofNat_of_zero_le (show 0 ≤ k by omega)
        obtain ⟨p, hsel, hp5, hjp, hat⟩ := okS_at hok (j := j) (by omega)
        obtain ⟨wd, hn, rfl, rfl, h20, h5, hp, _⟩ := okS_parts hok
        have CSel := Lib.hid fun (W : World) (h1 : Lies W U A' Vs) (h2 : Tab W) => implSel_any (hn : Int) A' c' Vs 1 j W h1 HW'.out hk h2
        rw [hsel] at CSel
        have CPk := Lib.hid fun (W : World) (h1 : Lies W U A Ws) => implPackAt_any (wd : Int) M K A c Ws j W h1 HW.out
        have hpg := paV_ge (wd : Int) M K Ws j hp
        have HV := Lib.hid hat
        rw [Int.toNat_natCast] at HV
        clear hsel hat hok hp hlen
        generalize paV (wd : Int) M K Ws (j : Int) = pv at *
        go_wp2_with fail
        clear p0 p1 p2 p3 p4 p5 p6 p7 hbl t0 t1
        refine (CSel.out _ (sc.liesOld HL'.out) (HTb.out.below sc.below)).mono ?_
        rintro e w3 ⟨rfl, hb3⟩
        replace sc := sc.step hb3
        clear hb3 CSel
        obtain ⟨⟨p0, p1, p2, p3, p4, p5, p6, p7⟩, _, hbl⟩ := box_eight (sc.getBox 0 rfl)
        obtain ⟨q, hq⟩ : ∃ q : Nat, p - j = q := ⟨_, rfl⟩
        have hq2 : (p : Int) - (j : Int) = (q : Int) := by omega
        have hq5 : q ≤ 5000 := by omega
        rw [hq2] at HV
        have hp32 : (2 : Int) ^ wd ≤ 4294967296 := by
          have : 2 ^ wd ≤ 2 ^ 32 := Nat.pow_le_pow_right (by omega) (by omega)
          rw [← pow_int]
          omega
        have hp0' : (0 : Int) < 2 ^ wd := Int.pow_pos (by omega)
        obtain ⟨z, hz⟩ : ∃ z : Int, (q : Int) * 2 ^ wd = z := ⟨_, rfl⟩
        have hz0 : 0 ≤ z := by rw [← hz]; exact Int.mul_nonneg (by omega) (by omega)
        have hz1 : z ≤ 5000 * 4294967296 := by rw [← hz]; exact Int.mul_le_mul (by omega) hp32 (by omega) (by omega)
        have e1 : IntKind.i64.wrap ((q : Int) * 2 ^ wd) = z := by rw [hz]; exact IntWalk.i64_in _ (by omega)
        rw [hz] at HV
        have e2 : IntKind.i64.wrap (z + pv) = z + pv := IntWalk.i64_in _ (by omega)
        clear hz hp32 hp0' hq
        go_wp2_with fail
        replace sc := sc.drew
        go_region_held3 (fun w' => w'.cell? ⟨w.heap.size, 2, none⟩ = some (.int .i64 wd) ∧ w'.cell? ⟨w.heap.size, 3, none⟩ = some (.int .i64 M) ∧ w'.cell? ⟨w.heap.size, 4, none⟩ = some (.int .i64 K) ∧ w'.cell? ⟨w.heap.size, 5, none⟩ = some (.slice A Ws.length c)) (first | (go_keep; done) | (refine ⟨?_, ?_, ?_, ?_⟩ <;> assumption)) (first | (go_at_call 69; (with_reducible refine Calls.mono (CPk.out _ (by exact sc.liesOld HL.out)) ?_); rintro e w5 ⟨rfl, hb5⟩; replace sc := sc.step hb5; clear hb5; obtain ⟨⟨q0, q1, q2, q3, q4, q5, q6, q7⟩, _, ql⟩ := box_eight (sc.getBox 0 rfl)))
        have HB := Lib.hid sc.below
        clear sc
        go_wp2
        go_ret
        exact ⟨ret_int HV.out.symm, HB.out⟩

end Go.Proofs.YtlbnngolcoefdaaDoor
