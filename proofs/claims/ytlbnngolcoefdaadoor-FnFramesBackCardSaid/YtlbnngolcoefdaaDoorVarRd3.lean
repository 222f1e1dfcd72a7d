/- The specification's VarRead. -/
import Derived.Test.YtlbnngolcoefdaaDoorVarBk1
import Derived.Deep.RegionWith
import Derived.Deep.RegionHeld3
namespace Go.Proofs.YtlbnngolcoefdaaDoor
open Go.RowKit
set_option maxRecDepth 100000

set_option maxHeartbeats 400000 in
theorem specVarRd_out (A : Option Addr) (n c : Nat) (a : Int) (w : World) (h : a < 0 ∨ (n : Int) ≤ a) :
    Calls Tryd.prog 85 #[.slice A n c, .int .i64 a] w fun e w' => e = .returned (.tuple #[.int .i64 0, .int .i64 0, .bool false]) ∧ w = w' := by
  by_cases h0 : a < 0
  · have d0 : decide (a < 0) = true := by simpa using h0
    go_enter Tryd.func85, Tryd.ntmps85
    go_wp2
    go_ret3
    exact ⟨rfl, rfl⟩
  · have d0 : decide (a < 0) = false := by simpa using h0
    have h1 : (n : Int) ≤ a := by omega
    have d1 : decide ((n : Int) ≤ a) = true := by simpa using h1
    go_enter Tryd.func85, Tryd.ntmps85
    go_wp2
    go_ret3
    exact ⟨rfl, rfl⟩

theorem varF_byte : ∀ (f u : Nat), u < 128 * 128 ^ f → ∀ x ∈ varF f u, x < 2 ^ 8
  | 0, u, h, x, hx => by
    simp [varF] at hx
    omega
  | f + 1, u, h, x, hx => by
    rw [varF] at hx
    split at hx
    · simp at hx
      omega
    · rcases List.mem_cons.1 hx with rfl | hx
      · omega
      · exact varF_byte f (u / 128) (by rw [Nat.pow_succ] at h; omega) x hx
theorem varV_byte (n : Int) : ∀ x ∈ varV n, x < 2 ^ 8 := by
  unfold varV
  split
  · exact varF_byte 4 _ (by omega)
  · simp
theorem own_addr {w : World} {base n c : Nat} {e : TypeId} {A : Option Addr} {xs : List Value} (h : w.ownsRow base e 1 (.slice A n c) n xs) : A = none ∨ ∃ b o, A = some ⟨b, o, none⟩ := by
  rcases h.2 with ⟨h, _⟩ | ⟨g, cap, cur, h, _⟩
  · injection h with h
    exact .inl h
  · injection h with h
    exact .inr ⟨_, _, h⟩

/-- Reading on from the start: all bytes so far go on. -/
theorem rd_from (C : List Nat) : ∀ k, k ≤ 5 → (∀ y ∈ C.take k, 128 ≤ y) → k ≤ C.length → rdF 5 0 0 C = rdF (5 - k) k (val7 (C.take k)) (C.drop k)
  | 0, _, _, _ => by simp [val7]
  | k + 1, hk, hC, hl => by
    have hx : C[k]? = some C[k] := List.getElem?_eq_getElem (by omega)
    have e : C.take (k + 1) = C.take k ++ [C[k]] := List.take_succ_eq_append_getElem (by omega)
    rw [rd_from C k (by omega) (fun y hy => hC y (by rw [e]; exact List.mem_append_left _ hy)) (by omega), show 5 - k = (4 - k) + 1 by omega, rd_step hx,
      if_pos (hC C[k] (e ▸ List.mem_append_right _ (List.mem_singleton.2 rfl))), e, val7_snoc, List.length_take, Nat.min_eq_left (by omega), show 5 - (k + 1) = 4 - k by omega]

set_option maxRecDepth 100000 in
set_option maxHeartbeats 1600000 in
theorem specVarRd_in (A : Option Addr) (n c : Nat) (D : List Nat) (a : Nat) (w : World) (hD : Lies w B8 A D) (Hn : Hid (D.length = n)) (hw : ∀ x ∈ D, x < 2 ^ 8) (ha : a < n) (hnc : n ≤ c) (hcm : c ≤ 9223372036854775807) (hn : n ≤ 17592186044416) :
    Calls Tryd.prog 85 #[.slice A n c, .int .i64 a] w fun e w' => VrEnd D a e ∧ Below w.heap.size w w' := by
  have d0 : decide ((a : Int) < 0) = false := by simp
  have d1 : decide ((n : Int) ≤ (a : Int)) = false := by simp; omega
  have d1n : decide (n ≤ a) = false := by simp; omega
  obtain ⟨b, o, _, rfl, hbl, _⟩ := hD.at_ (i := a) (by rw [Hn.out]; exact ha)
  have hC : Lies w B8 (some ⟨b, o + a, none⟩) (D.drop a) := by
    have h := hD.piece a (D.length - a)
    rwa [List.take_of_length_le (by rw [List.length_drop]; omega)] at h
  have HCl : Hid ((D.drop a).length = n - a) := Lib.hid (by rw [List.length_drop, Hn.out])
  have HCw : Hid (∀ x ∈ D.drop a, x < 2 ^ 8) := Lib.hid fun x hx => hw x (List.mem_of_mem_drop hx)
  have HE : Hid ((rdF 5 0 0 (D.drop a) = none → VrEnd D a (.returned (.tuple #[.int .i64 0, .int .i64 0, .bool false]))) ∧ (∀ m k, rdF 5 0 0 (D.drop a) = some (m, k) → VrEnd D a (.returned (.tuple #[.int .i64 m, .int .i64 ((a : Int) + (k : Int)), .bool true])))) :=
    Lib.hid ⟨vr_none (by rw [Hn.out]; exact ha), fun m k => vr_some (by rw [Hn.out]; exact ha)⟩
  have HG : Hid (∀ i, a ≤ i → D[i]? = (D.drop a)[i - a]?) := Lib.hid fun i hi => by rw [List.getElem?_drop, show a + (i - a) = i by omega]
  generalize D.drop a = C at *
  have HC := Lib.hid hC
  clear hC hw
  go_enter Tryd.func85, Tryd.ntmps85
  go_wp2
  go_loop [7, 8, 9] (fun q v j => ∃ i m p : Nat, a ≤ i ∧ i ≤ n ∧ i ≤ a + 5 ∧ p ≤ 34359738368 ∧ m < 34359738369 ∧ q = .int .i64 m ∧ v = .int .i64 p ∧ j = .int .i64 i ∧ Hid (p = 128 ^ (i - a) ∧ m = val7 (C.take (i - a)) ∧ ∀ y ∈ C.take (i - a), 128 ≤ y)) (fun _ _ j => n - (intOf j).toNat)
  case atStart => exact ⟨a, 0, 1, Nat.le_refl _, by omega, by omega, by omega, by omega, rfl, rfl, rfl, Lib.hid ⟨by simp, by simp [val7], by simp⟩⟩
  case round =>
    obtain ⟨i, m, p, hai, hin, hi5, hp35, hm35, rfl, rfl, rfl, HR⟩ := hrel
    by_cases hlt : i < n ∧ i < a + 5
    · obtain ⟨b', o', x, hA', _, hx, hc⟩ := hD.at_ (i := i) (by rw [Hn.out]; exact hlt.1)
      injection hA' with hA'
      injection hA' with e1 e2
      subst e1 e2
      have hxC := (HG.out i hai).symm.trans hx
      have hx256 := HCw.out x (List.mem_of_getElem? hxC)
      have t1 : decide ((i : Int) < (n : Int)) = true := by simp; omega
      have t1n : decide (i < n) = true := by simp; omega
      have t2 : decide ((i : Int) < (a : Int) + 5) = true := by simp; omega
      have t2n : decide (i < a + 5) = true := by simp; omega
      obtain ⟨d, hd⟩ : ∃ d, x % 128 = d := ⟨_, rfl⟩
      have hdi : (x : Int) % 128 = (d : Int) := by omega
      obtain ⟨r, hr⟩ : ∃ r, p * d = r := ⟨_, rfl⟩
      have hri : (p : Int) * (d : Int) = (r : Int) := by rw [← hr]; simp
      obtain ⟨k, hk⟩ : ∃ k, i - a = k := ⟨_, rfl⟩
      rw [hk] at HR hxC
      have hk4 : k ≤ 4 := by omega
      have hkl : k < C.length := (List.getElem?_eq_some_iff.1 hxC).1
      have eC : C.take (k + 1) = C.take k ++ [x] := by rw [List.take_succ_eq_append_getElem hkl, (List.getElem?_eq_some_iff.1 hxC).2]
      have hCk : (C.take k).length = k := by rw [List.length_take]; omega
      have hu : m + r = val7 (C.take (k + 1)) := by rw [eC, val7_snoc, hCk, ← HR.out.2.1, ← HR.out.1, hd, ← hr, Nat.mul_comm]
      have hu5 : m + r < 34359738368 := by
        have h1 := val7_lt (C.take (k + 1))
        rw [← hu, List.length_take, Nat.min_eq_left (by omega)] at h1
        exact Nat.lt_of_lt_of_le h1 (pow_le5 (by omega))
      have hp1 : 128 * p ≤ 34359738368 := by
        have h1 := pow_le5 (show k + 1 ≤ 5 by omega)
        rw [Nat.pow_succ, ← HR.out.1] at h1
        omega
      have HRd := Lib.hid (rd_from C k (by omega) HR.out.2.2 (by omega))
      rw [show 5 - k = (4 - k) + 1 by omega, rd_step hxC, hd, Nat.mul_comm d, ← HR.out.1, ← HR.out.2.1, hr] at HRd
      by_cases hx128 : 128 ≤ x
      · have t3 : decide ((x : Int) < 128) = false := by simp; omega
        have t3n : decide (x < 128) = false := by simp; omega
        have HN : Hid (128 * p = 128 ^ (i + 1 - a) ∧ m + r = val7 (C.take (i + 1 - a)) ∧ ∀ y ∈ C.take (i + 1 - a), 128 ≤ y) := Lib.hid (by
          rw [show i + 1 - a = k + 1 by omega]
          refine ⟨by rw [Nat.pow_succ, ← HR.out.1, Nat.mul_comm], hu, ?_⟩
          rw [eC]
          intro y hy
          rcases List.mem_append.1 hy with h | h
          · exact HR.out.2.2 y h
          · obtain rfl : y = x := by simpa using h
            exact hx128)
        clear hx hxC hd hr hk eC hCk hu HR hD HRd hkl HG
        go_wp2
        go_round
        case rel => exact ⟨i + 1, m + r, 128 * p, by omega, by omega, by omega, hp1, by omega, by go_num, by go_num, by go_num, HN⟩
        case measure => simp [intOf]; omega
      · have t3 : decide ((x : Int) < 128) = true := by simp; omega
        have t3n : decide (x < 128) = true := by simp; omega
        have hcmp := var_cmp (C.take k) x (m + r) (fun y hy => ⟨HR.out.2.2 y hy, HCw.out y (List.mem_of_mem_take hy)⟩) (by omega) (by rw [hCk]; exact hk4) (by rw [← eC]; exact hu)
        rw [hCk, ← eC] at hcmp
        rw [if_neg hx128] at HRd
        obtain ⟨u, hu'⟩ : ∃ u, m + r = u := ⟨_, rfl⟩
        rw [hu'] at hcmp HRd hu5
        have hmr : (m : Int) + (r : Int) = (u : Int) := by omega
        obtain ⟨j, hj⟩ : ∃ j, i + 1 - a = j := ⟨_, rfl⟩
        have hjk : j = k + 1 := by omega
        rw [← hjk] at hcmp
        have hK : Lies w B8 (some ⟨b, o + a, none⟩) (C.take j) := HC.out.front j
        have hKl : (C.take j).length = j := by rw [List.length_take]; omega
        have hKw : ∀ y ∈ C.take j, y < 2 ^ 8 := fun y hy => HCw.out y (List.mem_of_mem_take hy)
        have hV := varV_len (u : Int)
        clear hx hxC hd hr hk eC hCk hu HR hD hkl HG hu'
        have HVw := Lib.hid (varV_byte (u : Int))
        have cv0 : (convert 22 9 (.slice (some ⟨b, o + a, none⟩) j (c - a))).run Tryd.prog w.drew = .ok (.string (bstr (C.take j))) w.drew := by
          have h := conv_any (P := Tryd.prog) w.drew 22 5 9 Tryd.underlying22 Tryd.underlying5 Tryd.underlying9 (some ⟨b, o + a, none⟩) (c - a) (C.take j) (.inr ⟨_, _, rfl⟩) hK.drew
          rwa [hKl] at h
        have CV : Hid (∀ (W : World), Below w.heap.size w W → (convert 22 9 (.slice (some ⟨b, o + a, none⟩) j (c - a))).run Tryd.prog W = .ok (.string (bstr (C.take j))) W) := Lib.hid fun W hW => by
          have h := conv_any (P := Tryd.prog) W 22 5 9 Tryd.underlying22 Tryd.underlying5 Tryd.underlying9 (some ⟨b, o + a, none⟩) (c - a) (C.take j) (.inr ⟨_, _, rfl⟩) (hK.below hW)
          rwa [hKl] at h
        have CU : Hid (∀ (W : World) (A1 : Option Addr) (c1 base : Nat), W.ownsRow base 5 1 (.slice A1 (varV (u : Int)).length c1) (varV (u : Int)).length ((varV (u : Int)).map B8) → (convert 22 9 (.slice A1 (varV (u : Int)).length c1)).run Tryd.prog W = .ok (.string (bstr (varV (u : Int)))) W) := Lib.hid fun W A1 c1 base ho =>
          conv_any (P := Tryd.prog) W 22 5 9 Tryd.underlying22 Tryd.underlying5 Tryd.underlying9 A1 c1 _ (own_addr ho) (Lies.of_own ho)
        have HSp := Lib.hid (specVar_any (u : Int))
        have HJ := Lib.hid hjk
        clear hjk
        have b1 : (i : Int) + 1 ≤ (c : Int) := by omega
        have b2 : (a : Int) ≤ (i : Int) + 1 := by omega
        have b3 : i + 1 ≤ c := by omega
        have b4 : a ≤ i + 1 := by omega
        have b5 : ¬ c = a := by omega
        have b6 : a < c := by omega
        have e7 : IntKind.i64.wrap ((i : Int) + 1) = (i : Int) + 1 := IntWalk.i64_in _ (by omega)
        have hsl : ∀ W : World, (Instr.slice 22 (.slice (some ⟨b, o, none⟩) n c) (some (.int .i64 (a : Int))) (some (.int .i64 ((i : Int) + 1))) none).run Tryd.prog W = .ok (.slice (some ⟨b, o + a, none⟩) j (c - a)) W := fun W => by
          have h := run_slice_lh (P := Tryd.prog) W 22 (some ⟨b, o, none⟩) n c Tryd.underlying22 .i64 .i64 (a : Int) ((i : Int) + 1) (by omega) b2 b1
          rw [h]
          have e2 : ((i : Int) + 1).toNat = i + 1 := by omega
          rw [e2, Int.toNat_natCast]
          have hz : (sizeOf (Tryd.prog.elem 22)).run Tryd.prog W = .ok 1 W := by kernel_rfl
          rw [hz]
          simp [Result.andThen, sliced, b5, hj, Addr.add]
        by_cases hbad : (x = 0 ∧ 0 < k) ∨ 4294967295 < u
        · have HM : Hid (rdF 5 0 0 C = none) := Lib.hid (by rw [HRd.out, if_pos hbad])
          have hne : bstr (varV (u : Int)) ≠ bstr (C.take j) := fun h => (hcmp.1 (bstr_inj HVw.out hKw h)) hbad
          have HKw := Lib.hid hKw
          clear hcmp hK hKl hKw HRd hbad
          generalize bstr (C.take j) = S2 at *
          generalize bstr (varV (u : Int)) = S1 at *
          generalize varV (u : Int) = M at *
          have n1 : (S1.toList == S2.toList) = false := by
            rw [beq_eq_false_iff_ne]
            intro h
            rw [ByteArray.toList_eq, ByteArray.toList_eq] at h
            exact hne (ByteArray.ext (Array.toList_inj.mp h))
          clear hne
          go_wp2_with fail
          go_region_with (first | (go_at_call 106; refine (HSp.out _).mono ?_; rintro e w1 ⟨A1, c1, rfl, ho, hb⟩; have cvA := CU.out w1 A1 c1 _ ho; have cvB := CV.out w1 (((Below.refl w.heap.size w).drew).trans hb); have HB1 := Lib.hid (((Below.refl w.heap.size w).drew).trans hb); clear ho hb))
          all_goals go_wp2
          all_goals go_ret3
          all_goals exact ⟨HE.out.1 HM.out, HB1.out⟩
        · have HM : Hid (rdF 5 0 0 C = some (u, k + 1)) := Lib.hid (by rw [HRd.out, if_neg hbad])
          have heq : bstr (varV (u : Int)) = bstr (C.take j) := by rw [hcmp.2 hbad]
          have HKw := Lib.hid hKw
          have HR2 := Lib.hid (HE.out.2 _ _ HM.out)
          have HI : Hid ((i : Int) + 1 = (a : Int) + ((k + 1 : Nat) : Int)) := Lib.hid (by have := HJ.out; omega)
          rw [heq] at CU
          clear hcmp hK hKl hKw HRd hbad heq
          generalize bstr (C.take j) = S2 at *
          generalize varV (u : Int) = M at *
          have n1 : (S2.toList == S2.toList) = true := by simp
          go_wp2_with fail
          go_region_with (first | (go_at_call 106; refine (HSp.out _).mono ?_; rintro e w1 ⟨A1, c1, rfl, ho, hb⟩; have cvA := CU.out w1 A1 c1 _ ho; have cvB := CV.out w1 (((Below.refl w.heap.size w).drew).trans hb); have HB1 := Lib.hid (((Below.refl w.heap.size w).drew).trans hb); clear ho hb))
          all_goals go_wp2
          all_goals go_ret3
          all_goals refine ⟨?_, HB1.out⟩
          all_goals rw [HI.out]
          all_goals exact HR2.out
    · have HM : Hid (rdF 5 0 0 C = none) := Lib.hid (by
        rw [rd_from C (i - a) (by omega) HR.out.2.2 (by rw [HCl.out]; omega)]
        by_cases h5 : i = a + 5
        · rw [show 5 - (i - a) = 0 by omega]
          rfl
        · exact rd_over (by rw [HCl.out]; omega))
      by_cases hin2 : i < n
      · have t1 : decide ((i : Int) < (n : Int)) = true := by simp; omega
        have t1n : decide (i < n) = true := by simp; omega
        have t2 : decide ((i : Int) < (a : Int) + 5) = false := by simp; omega
        have t2n : decide (i < a + 5) = false := by simp; omega
        clear HR hD HG
        go_wp2
        go_ret3
        exact ⟨HE.out.1 HM.out, Below.refl _ _⟩
      · have t1 : decide ((i : Int) < (n : Int)) = false := by simp; omega
        have t1n : decide (i < n) = false := by simp; omega
        clear HR hD HG
        go_wp2
        go_ret3
        exact ⟨HE.out.1 HM.out, Below.refl _ _⟩

theorem specVarRd_any (A : Option Addr) (c : Nat) (D : List Nat) (a : Int) (w : World) (hD : Lies w B8 A D) (hw : ∀ x ∈ D, x < 2 ^ 8) (hnc : D.length ≤ c) (hcm : c ≤ 9223372036854775807) (hn : D.length ≤ 17592186044416) :
    Calls Tryd.prog 85 #[.slice A D.length c, .int .i64 a] w fun e w' => VrEnd D a e ∧ Below w.heap.size w w' := by
  by_cases h : 0 ≤ a ∧ a < D.length
  · obtain ⟨m, rfl⟩ := Int.eq_ofNat_of_zero_le h.1
    exact specVarRd_in A D.length c D m w hD (Lib.hid rfl) hw (by omega) hnc hcm hn
  · refine (specVarRd_out A D.length c a w (by omega)).mono fun e w' h' => ⟨?_, by rw [← h'.2]; exact Below.refl _ _⟩
    rw [h'.1]
    exact vr_out h

end Go.Proofs.YtlbnngolcoefdaaDoor
