/- The law FnVarBack walked. -/
import Derived.Test.YticndfdicalmcaaVarBk1
import Derived.Test.YticndfdicalmcaaDraw3
import Derived.Test.YticndfdicalmcaaLawVarRd
namespace Go.Proofs.Yticndfdicalmcaa
open Go.RowKit

set_option maxHeartbeats 400000 in
theorem lawVarBk_big (A : Option Addr) (n c : Nat) (w : World) (h : 1048576 < n) :
    Calls Try.prog 5 #[.slice A n c] w fun e w' => e = .returned (.bool true) ∧ Below w.heap.size w w' := by
  have C := Lib.hid (big_any A n c w)
  rw [decide_eq_true h] at C
  go_enter Try.func5, Try.ntmps5
  go_wp2_with fail
  refine C.out.mono ?_
  rintro e w1 ⟨rfl, rfl⟩
  go_wp2
  go_ret
  exact ⟨rfl, Below.refl _ _⟩

theorem oneCell_bytes (M : List Nat) : ∀ y ∈ M.map B8, y.oneCell' = true := by
  intro y hy
  obtain ⟨x, _, rfl⟩ := List.mem_map.1 hy
  rfl

set_option maxRecDepth 100000 in
set_option maxHeartbeats 1600000 in
theorem lawVarBk (A : Option Addr) (c : Nat) (D : List Nat) (w : World) (hD : Lies w B8 A D) (hw : ∀ x ∈ D, x < 2 ^ 8) (hl : D.length ≤ 1048576) :
    Calls Try.prog 5 #[.slice A D.length c] w fun e w' => e = .returned (.bool true) ∧ Below w.heap.size w w' := by
  obtain ⟨i0, hi, hz0, hz1, hz2⟩ := info_parts Try.infoU8
  have C := Lib.hid (big_any A D.length c w)
  rw [decide_eq_false (by omega)] at C
  have HD := Lib.hid hD
  have HW := Lib.hid hw
  clear hD hw
  go_enter Try.func5, Try.ntmps5
  go_wp2_with fail
  refine C.out.mono ?_
  rintro e w0 ⟨rfl, rfl⟩
  go_wp2_with fail
  refine (drawVar_any A c D w HD.out HW.out hl).mono ?_
  rintro e w1 ⟨n, rfl, hn, hb1⟩
  have sc : Scene w w1 [] := (Scene.start w).step hb1
  clear hb1
  go_wp2_with fail
  refine (implVar_any n w1).mono ?_
  rintro e w2 ⟨A2, c2, rfl, ho, hb⟩
  replace sc := sc.row hb ho
  clear hb ho
  go_wp2_with fail
  refine (specVar_any n w2).mono ?_
  rintro e w3 ⟨A3, c3, rfl, ho, hb⟩
  replace sc := sc.row hb ho
  clear hb ho
  by_cases hr : 0 ≤ n ∧ n ≤ 4294967295
  · obtain ⟨m, rfl⟩ := Int.eq_ofNat_of_zero_le hr.1
    have hm : m ≤ 4294967295 := by omega
    have hMv : varV (m : Int) = varF 4 m := by unfold varV; rw [if_pos hr, Int.toNat_natCast]
    have hwid := varF_width 4 m (by omega) (by omega)
    have HRd := Lib.hid (rd_back 4 0 0 m [255, 1] (by omega) (.inl rfl) (by simpa using hm))
    have hby : ∀ x ∈ varV (m : Int), x < 2 ^ 8 := varV_byte m
    have HMono : Hid ((varV ((m : Int) - 1)).length ≤ (varV (m : Int)).length) := Lib.hid (by
      rw [hMv]
      unfold varV
      split
      · exact varF_mono 4 _ _ (by omega)
      · simp)
    have hM5 := varV_len (m : Int)
    rw [← hMv] at hwid HRd
    have hw0 : widV (m : Int) = (Lib.bitLen m : Int) := by unfold widV; rw [if_neg (by omega), Int.toNat_natCast]
    have hbl := bitLen_64 m (by omega)
    have CW := Lib.hid fun W : World => implWid_any (m : Int) W (by omega)
    rw [hw0] at CW
    generalize Lib.bitLen m = bl at *
    generalize varV (m : Int) = M at *
    have hM1 : 1 ≤ M.length := by omega
    have HBy := Lib.hid hby
    clear hby hr hn hMv hw0
    have t0 : ((M.length : Int) == 0) = false := by rw [beq_eq_false_iff_ne]; omega
    have hmax : max (1 : Int) (((bl : Int) + 6) / 7) = (M.length : Int) := by omega
    clear hwid
    go_wp2_with fail
    refine (lpick_any A c D 3 4 w3 (sc.liesOld HD.out) HW.out hl (by omega) (by omega)).mono ?_
    rintro e w4 ⟨r, rfl, ⟨hr4, _⟩, rfl⟩
    have hr4' : (r : Int) < 4 := hr4 (by omega)
    clear hr4
    have hod := sc.getRow 1 rfl
    obtain ⟨g2, cap2, hv2, _, hg2l⟩ := hod.form (by omega)
    injection hv2 with hA2 _ hc2
    subst hA2 hc2
    have HOd := Lib.hid hod
    have HSc := Lib.hid sc.below
    clear hod sc
    have hpre := own_front (r := r) (T := 4) (Box.made w3 5 #[B8 200, B8 1, B8 128, B8 7]) rfl (by omega) (by omega)
    have HP := Lib.hid hpre
    have HOd4 : Hid ((w3.alloc (.cells #[B8 200, B8 1, B8 128, B8 7] 5)).ownsRow 0 5 1 (.slice (some ⟨g2, 0, none⟩) M.length c2) M.length (M.map B8)) := Lib.hid (HOd.out.alloc _)
    clear hpre
    go_wp2_with (at_builtin; refine wpList_append_own _ rfl _ _ 22 rfl w3.heap.size 5 i0 (.int .u8 0) 1 1 Try.underlying22 hi hz0 hz1 hz2 rfl (by decide) _ _ _ rfl HP.out ⟨g2, 0, none⟩ M.length c2 (M.map B8) rfl HOd4.out.1 (HOd4.out.cells (g := g2) rfl) (oneCell_bytes M) (by unfold maxLen; omega) (by omega) (by simp) ?_)
    intro v5 w5 ho5 hg5 _
    have HO5 := Lib.hid ho5
    have HG5 := Lib.hid hg5
    have HN5 := Lib.hid (own_front (r := 2) (T := 2) (Box.made w5 5 #[B8 255, B8 1]) rfl (by omega) (by omega))
    clear ho5 hg5
    go_wp2_with (at_builtin; refine wpList_append_own _ rfl _ _ 22 rfl w3.heap.size 5 i0 (.int .u8 0) 1 1 Try.underlying22 hi hz0 hz1 hz2 rfl (by decide) _ _ _ rfl (HO5.out.alloc _) ⟨w5.heap.size, 0, none⟩ 2 2 [B8 255, B8 1] rfl HN5.out.1 (HN5.out.cells (g := w5.heap.size) rfl) (oneCell_bytes [255, 1]) (by unfold maxLen; omega) (by omega) (by have := HG5.out.size; simp at this ⊢; omega) ?_)
    intro v7 w7 ho7 hg7 _
    obtain ⟨A7, c7, rfl⟩ := own_slice ho7
    have hcap := row_cap ho7
    obtain ⟨E, hE⟩ : ∃ E, [200, 1, 128, 7].take r ++ M ++ [255, 1] = E := ⟨_, rfl⟩
    have hxs : [B8 200, B8 1, B8 128, B8 7].take r ++ (M.map B8 ++ [B8 255, B8 1]) = E.map B8 := by rw [← hE]; simp [List.map_take]
    rw [hxs] at ho7
    have hEl : E.length = r + M.length + 2 := by rw [← hE]; simp; omega
    have hdrop : E.drop r = M ++ [255, 1] := by
      rw [← hE, List.append_assoc, List.drop_append_of_le_length (by simp; omega), List.drop_eq_nil_of_le (by simp; omega), List.nil_append]
    have hEb : ∀ x ∈ E, x < 2 ^ 8 := by
      intro x hx
      rw [← hE] at hx
      rcases List.mem_append.1 hx with h | h
      · rcases List.mem_append.1 h with h | h
        · have := List.mem_of_mem_take h
          simp at this
          omega
        · exact HBy.out x h
      · simp at h
        omega
    have hv : VrEnd E r (.returned (.tuple #[.int .i64 m, .int .i64 ((r : Int) + (M.length : Int)), .bool true])) := by
      refine vr_some (by omega) ?_
      rw [hdrop]
      have h := HRd.out
      simpa using h
    have hCV := implVarRd_any A7 c7 E (r : Int) w7 (Lies.of_own ho7) hEb (by omega) (by omega) (by omega)
    rw [hEl] at hCV
    have HB7 : Hid (Below w.heap.size w w7) := Lib.hid (by
      have h1 := HSc.out.size
      have h2 := HG5.out.size
      rw [World.size_alloc] at h2
      have a1 : Below w.heap.size w3 w5 := ((Below.refl w.heap.size w3).alloc h1 _).grown HG5.out (by simp; omega) (fun j hj => by
        have := (HP.out.lt j hj).1
        omega)
      have a2 : Below w.heap.size w5 w7 := ((Below.refl w.heap.size w5).alloc (by omega) _).grown hg7 (by simp; omega) (fun j hj => by
        have := (HO5.out.lt j hj).1
        omega)
      exact (HSc.out.trans a1).trans a2)
    have HCV := Lib.hid hCV
    have HVr := Lib.hid hv
    clear ho7 hg7 hcap hxs hE hEl hdrop hEb hv hCV HO5 HG5 HN5 HOd4 HP HOd
    go_wp2_with fail
    refine HCV.out.mono ?_
    rintro e w8 ⟨he, hb8⟩
    have he2 : e = .returned (.tuple #[.int .i64 m, .int .i64 ((r : Int) + (M.length : Int)), .bool true]) := by
      unfold VrEnd at he
      have h := HVr.out
      unfold VrEnd at h
      rw [he, ← h]
    subst he2
    have HB8 := Lib.hid (below_then HB7.out hb8)
    clear he hb8 HCV HVr
    have t1 : ((m : Int) == (m : Int)) = true := by simp
    have t2 : (((r : Int) + (M.length : Int)) == ((r : Int) + (M.length : Int))) = true := by simp
    have t3 : ((M.length : Int) == (M.length : Int)) = true := by simp
    by_cases hm0 : m = 0
    · have t4 : ((m : Int) == 0) = true := by rw [beq_iff_eq]; omega
      clear hm0
      go_wp2_with fail
      refine (CW.out _).mono ?_
      rintro e w9 ⟨rfl, rfl⟩
      go_wp2
      go_ret
      exact ⟨rfl, HB8.out⟩
    · have t4 : ((m : Int) == 0) = false := by rw [beq_eq_false_iff_ne]; omega
      have CV2 := Lib.hid (implVar_any ((m : Int) - 1) w8)
      have hmono := HMono.out
      generalize varV ((m : Int) - 1) = M2 at *
      have t5 : decide ((M2.length : Int) ≤ (M.length : Int)) = true := by simp; omega
      have t5n : decide (M2.length ≤ M.length) = true := by simp; omega
      clear hm0
      go_wp2_with fail
      refine CV2.out.mono ?_
      rintro e w9 ⟨A9, c9, rfl, _, hb9⟩
      have HB9 := Lib.hid (below_then HB8.out hb9)
      clear hb9
      go_wp2_with fail
      refine (CW.out _).mono ?_
      rintro e w10 ⟨rfl, rfl⟩
      go_wp2
      go_ret
      exact ⟨rfl, HB9.out⟩
  · have hMv : varV n = [] := by unfold varV; rw [if_neg hr]
    rw [hMv]
    have HSc := Lib.hid sc.below
    clear sc hMv
    go_wp2
    go_ret
    exact ⟨rfl, HSc.out⟩

end Go.Proofs.Yticndfdicalmcaa
