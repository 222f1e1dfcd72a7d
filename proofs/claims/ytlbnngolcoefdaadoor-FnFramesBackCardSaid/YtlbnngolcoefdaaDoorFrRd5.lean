/- FrameRead of the specification. -/
import Derived.Test.YtlbnngolcoefdaaDoorFrRd4
import Derived.Test.YtlbnngolcoefdaaDoorFr3
namespace Go.Proofs.YtlbnngolcoefdaaDoor
open Go.RowKit
set_option maxRecDepth 100000

set_option maxHeartbeats 800000 in
theorem specRd_out (A : Option Addr) (n c : Nat) (D : List Nat) (a : Int) (w : World) (h : a < 0 ∨ (n : Int) < a + 2) (hn : n ≤ 17592186044416) (ha : a ≤ 9223372036854775807) (hr : rdV D a = none) :
    Calls Tryd.prog 35 #[.slice A n c, .int .i64 a] w (RdRes D a w) := by
  have HR := Lib.hid hr
  clear hr
  have e2 : IntKind.i64.wrap ((n : Int) - 2) = (n : Int) - 2 := IntWalk.i64_in _ (by omega)
  by_cases h0 : a < 0
  · have d0 : decide (a < 0) = true := by simpa using h0
    go_enter Tryd.func35, Tryd.ntmps35
    go_wp2
    refine bodyPost_ret (v := .tuple #[.agg #[.int .i64 0, .slice none 0 0], .int .i64 0, .bool false]) (by simp [results, Tryd.results35, go_sem]) rfl ?_
    exact rd_res_none HR.out (by go_grown)
  · have d0 : decide (a < 0) = false := by simpa using h0
    have h1 : (n : Int) - 2 < a := by omega
    have d1 : decide ((n : Int) - 2 < a) = true := by simpa using h1
    go_enter Tryd.func35, Tryd.ntmps35
    go_wp2
    refine bodyPost_ret (v := .tuple #[.agg #[.int .i64 0, .slice none 0 0], .int .i64 0, .bool false]) (by simp [results, Tryd.results35, go_sem]) rfl ?_
    exact rd_res_none HR.out (by go_grown)

set_option maxHeartbeats 1600000 in
theorem specRd_none (p o n c : Nat) (D : List Nat) (a : Nat) (w : World) (hD : Lies w B8 (some ⟨p, o, none⟩) D) (Hn : Hid (D.length = n)) (hw : ∀ x ∈ D, x < 2 ^ 8) (ha : a + 2 ≤ n) (hnc : n ≤ c) (hcm : c ≤ 9223372036854775807) (hn : n ≤ 17592186044416) (hh : hdV D a = none) :
    Calls Tryd.prog 35 #[.slice (some ⟨p, o, none⟩) n c, .int .i64 a] w (RdRes D a w) := by
  have HN := Lib.hid (rdV_none hh)
  have HH := Lib.hid hh
  clear hh
  have d0 : decide ((a : Int) < 0) = false := by simp
  have d1 : decide ((n : Int) - 2 < (a : Int)) = false := by simp; omega
  have e2 : IntKind.i64.wrap ((n : Int) - 2) = (n : Int) - 2 := IntWalk.i64_in _ (by omega)
  have e3 : IntKind.i64.wrap ((a : Int) + 2) = (a : Int) + 2 := IntWalk.i64_in _ (by omega)
  have han : (a : Int) < (n : Int) := by omega
  have hann : a < n := by omega
  obtain ⟨p', o', x, hA', hpl, hx, hc⟩ := hD.at_ (i := a) (by rw [Hn.out]; omega)
  injection hA' with hA'
  injection hA' with q1 q2
  subst q1 q2
  have hxb := hw x (List.mem_of_getElem? hx)
  have hcA := Below.heap_alloc w (.cells #[.int .i64 0, .slice none 0 0] 49) p hpl
  have hc0 : (w.alloc (.cells #[.int .i64 0, .slice none 0 0] 49)).cell? ⟨p, o + a, none⟩ = some (B8 x) := (((Below.refl w.heap.size w).alloc (Nat.le_refl _) _).cell (p := ⟨p, o + a, none⟩) hpl).trans hc
  by_cases h90 : x = 90
  · subst h90
    have HR := Lib.hid fun W (h : Below w.heap.size w W) => specVarRd_any (some ⟨p, o, none⟩) c D ((a : Int) + 2) W (hD.below h) hw (by rw [Hn.out]; exact hnc) hcm (by rw [Hn.out]; exact hn)
    rw [Hn.out] at HR
    have HV := Lib.hid (hdV_var hx hw)
    rw [Hn.out] at HV
    clear hx hD hw hcA
    go_enter Tryd.func35, Tryd.ntmps35
    go_wp2_with fail
    have sx := Box.made w 49 #[.int .i64 0, .slice none 0 0]
    have hb0 : Below w.heap.size w (w.alloc (Obj.cells #[.int .i64 0, .slice none 0 0] 49)) := (Below.refl _ _).alloc (Nat.le_refl _) _
    clear hc0
    generalize w.alloc (Obj.cells #[.int .i64 0, .slice none 0 0] 49) = w0 at *
    refine (HR.out _ hb0).mono ?_
    rintro e w1 ⟨hv, hb1⟩
    have sx1 := sx.below hb1 sx.lt
    have z0 := sx1.frozen 0
    have z1 := sx1.frozen 1
    have y0 := sx1.cell 0
    have y1 := sx1.cell 1
    simp only [List.getElem?_toArray, List.getElem?_cons_zero, List.getElem?_cons_succ] at y0 y1
    have hl1 := sx1.lt
    have HB1 := Lib.hid (below_then hb0 hb1)
    have HE : Hid (RdRes D a w (.returned (.tuple #[.agg #[.int .i64 0, .slice none 0 0], .int .i64 0, .bool false])) ((w1.setCell ⟨w.heap.size, 0, none⟩ (.int .i64 0)).setCell ⟨w.heap.size, 1, none⟩ (.slice none 0 0))) := Lib.hid (rd_res_none HN.out ((HB1.out.setCell (p := ⟨w.heap.size, 0, none⟩) (Nat.le_refl _) _).setCell (p := ⟨w.heap.size, 1, none⟩) (Nat.le_refl _) _))
    clear hb1 hb0 hc HR sx sx1
    unfold VrEnd at hv
    rcases HV.out with ⟨hvr, hh⟩ | ⟨m, j, hvr, hj, hm, hh⟩
    · rw [hvr] at hv
      subst hv
      clear hh hvr HV
      go_wp2
      refine bodyPost_ret (v := .tuple #[.agg #[.int .i64 0, .slice none 0 0], .int .i64 0, .bool false]) (by simp [results, Tryd.results35, go_sem, y0, y1]) rfl ?_
      exact HE.out
    · rw [hvr] at hv
      subst hv
      clear hvr HV
      obtain ⟨s, hs⟩ : ∃ s, a + 2 + j = s := ⟨_, rfl⟩
      rw [hs, HH.out] at hh
      rw [hs] at hj
      simp only [hs]
      have hno : ¬ (m ≤ 8000 ∧ s + m ≤ n) := fun h => by rw [if_pos h] at hh; cases hh
      clear hs hh
      by_cases h1 : m ≤ 8000
      · have t1 : decide ((8000 : Int) < (m : Int)) = false := by simp; omega
        have t1n : decide (8000 < m) = false := by simp; omega
        have e4 : IntKind.i64.wrap ((n : Int) - (s : Int)) = (n : Int) - (s : Int) := IntWalk.i64_in _ (by omega)
        have h2 : n < s + m := by omega
        have t2 : decide ((n : Int) - (s : Int) < (m : Int)) = true := by simp; omega
        clear hno
        go_wp2
        refine bodyPost_ret (v := .tuple #[.agg #[.int .i64 0, .slice none 0 0], .int .i64 0, .bool false]) (by simp [results, Tryd.results35, go_sem, y0, y1]) rfl ?_
        exact HE.out
      · have t1 : decide ((8000 : Int) < (m : Int)) = true := by simp; omega
        have t1n : decide (8000 < m) = true := by simp; omega
        clear hno
        go_wp2
        refine bodyPost_ret (v := .tuple #[.agg #[.int .i64 0, .slice none 0 0], .int .i64 0, .bool false]) (by simp [results, Tryd.results35, go_sem, y0, y1]) rfl ?_
        exact HE.out
  · have n1 : ((x : Int) == 90) = false := by simp; omega
    have n2 : ¬ (x : Int) = 90 := by omega
    have n3 : decide ((x : Int) = 90) = false := by simp; omega
    clear hx hD hw hcA
    go_enter Tryd.func35, Tryd.ntmps35
    go_wp2
    refine bodyPost_ret (v := .tuple #[.agg #[.int .i64 0, .slice none 0 0], .int .i64 0, .bool false]) (by simp [results, Tryd.results35, go_sem]) rfl ?_
    exact rd_res_none HN.out (by go_grown)

end Go.Proofs.YtlbnngolcoefdaaDoor
