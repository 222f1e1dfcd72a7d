/- The law FnPackBack walked (written by packbkgen.py). -/
import Derived.Test.YticndfdicalmcaaPackBk1
import Derived.Test.YticndfdicalmcaaDraw5
import Derived.Test.YticndfdicalmcaaSame1
import Derived.Test.YticndfdicalmcaaScene4
namespace Go.Proofs.Yticndfdicalmcaa
open Go.RowKit

set_option maxHeartbeats 400000 in
theorem lawPackBk_big (A : Option Addr) (n c : Nat) (w : World) (h : 1048576 < n) :
    Calls Try.prog 4 #[.slice A n c] w fun e w' => e = .returned (.bool true) ∧ Below w.heap.size w w' := by
  have C := Lib.hid (big_any A n c w)
  rw [decide_eq_true h] at C
  go_enter Try.func4, Try.ntmps4
  go_wp2_with fail
  refine C.out.mono ?_
  rintro e w1 ⟨rfl, rfl⟩
  go_wp2
  go_ret
  exact ⟨rfl, Below.refl _ _⟩

theorem addr_same {b o b' o' : Nat} (h : (some ⟨b, o, none⟩ : Option Addr) = some ⟨b', o', none⟩) : b = b' ∧ o = o' := by
  injection h with h
  injection h with e1 e2
  exact ⟨e1, e2⟩

set_option maxRecDepth 100000 in
set_option maxHeartbeats 3200000 in
theorem lawPackBk (A : Option Addr) (c : Nat) (D : List Nat) (w : World) (hD : Lies w B8 A D) (hw : ∀ x ∈ D, x < 2 ^ 8) (hl : D.length ≤ 1048576) :
    Calls Try.prog 4 #[.slice A D.length c] w fun e w' => e = .returned (.bool true) ∧ Below w.heap.size w w' := by
  have C := Lib.hid (big_any A D.length c w)
  rw [decide_eq_false (by omega)] at C
  have HD := Lib.hid hD
  have HW := Lib.hid hw
  clear hD hw
  go_enter Try.func4, Try.ntmps4
  go_wp2_with fail
  refine C.out.mono ?_
  rintro e w0 ⟨rfl, rfl⟩
  go_wp2_with fail
  refine (drawPack_any A c D w HD.out HW.out hl).mono ?_
  rintro e w1 ⟨L, wd, v, rfl, ho, hL5, hb1⟩
  obtain ⟨A1, c1, rfl⟩ := own_slice ho
  have sc : Scene w w1 _ := (Scene.start w).row hb1 ho
  clear hb1 ho
  go_wp2_with fail
  refine (specPackOf_any A1 c1 L wd w1 (sc.lies 0 rfl) (by omega)).mono ?_
  rintro e w2 ⟨AR, cR, rfl, ho, hb⟩
  replace sc := sc.row hb ho
  clear hb ho
  go_wp2_with fail
  replace sc := sc.box 39 #[.int .i64 (poP L wd), .int .i64 (poN L wd), .int .i64 (poM L wd), .slice AR (poW L wd).length cR]
  generalize w2.alloc (Obj.cells #[.int .i64 (poP L wd), .int .i64 (poN L wd), .int .i64 (poM L wd), .slice AR (poW L wd).length cR] 39) = w3 at *
  generalize w2.heap.size = sR at *
  refine (implPackOf_any A1 c1 L wd w3 (sc.lies 2 rfl)).mono ?_
  rintro e w4 ⟨AG, cG, rfl, ho, hb⟩
  replace sc := sc.row hb ho
  clear hb ho
  cases hok : poOk L wd
  · have HB := Lib.hid (sc.below)
    clear sc
    go_wp2
    go_ret
    exact ⟨rfl, HB.out.alloc HB.out.size _⟩
  · obtain ⟨hokP, hpl, hpa, hpe, ⟨d, rfl, hd32⟩, hL5000⟩ := pack_back L wd hok
    have hMn : poM L d = ((L.length * d : Nat) : Int) := by unfold poM; rw [if_pos hok]; simp
    have hWb : ∀ x ∈ poW L d, x < 2 ^ 64 := by
      unfold poW
      rw [if_pos hok]
      intro x hx
      unfold digits at hx
      obtain ⟨j, _, rfl⟩ := List.mem_map.1 hx
      exact Nat.mod_lt _ (by decide)
    rw [hMn] at hpl hpa hpe hokP sc ⊢
    have hm5 : L.length * d ≤ 5000 := by
      have h := (okP_fits hokP).2.2
      obtain ⟨m, e, hm, _, _⟩ := okB_nat h
      omega
    generalize poP L (d : Int) = P at *
    generalize poN L (d : Int) = N at *
    generalize poW L (d : Int) = W at *
    obtain ⟨M, hM⟩ : ∃ M, L.length * d = M := ⟨_, rfl⟩
    rw [hM] at hpl hpa hpe sc hm5 ⊢
    have hmul : (d : Int) * (L.length : Int) = (M : Int) := by rw [← hM, Nat.mul_comm]; simp
    have HPl := Lib.hid hpl
    have HPa := Lib.hid hpa
    have HPe := Lib.hid hpe
    have HWb := Lib.hid hWb
    clear hok hokP hMn hpl hpa hpe hWb hM
    go_wp2_with fail
    replace sc := sc.box 39 #[.int .i64 P, .int .i64 N, .int .i64 (M : Int), .slice AG W.length cG]
    generalize w4.alloc (Obj.cells #[.int .i64 P, .int .i64 N, .int .i64 (M : Int), .slice AG W.length cG] 39) = w5 at *
    generalize w4.heap.size = sG at *
    refine (lpick_any A c D 3 ((L.length : Int) + 1) w5 (sc.liesOld HD.out) HW.out hl (by omega) (by omega)).mono ?_
    rintro e w6 ⟨r, rfl, ⟨hr1, hr2⟩, rfl⟩
    have hrL : r ≤ L.length := by
      rcases Nat.lt_or_ge 0 L.length with h | h
      · have := hr1 (by omega)
        omega
      · have := hr2 (by omega)
        omega
    clear hr1 hr2
    by_cases hrl : r < L.length
    · have t1 : decide ((r : Int) < (L.length : Int)) = true := by simp; omega
      have t1n : decide (r < L.length) = true := by simp; omega
      obtain ⟨b, o, x, rfl, hbl, hx, hc⟩ := (sc.lies 4 rfl (f := I) (L := L)).at_ hrl
      have hpx : paV P N M W (r : Int) = x := by
        rw [HPa.out r hrl]
        exact (List.getElem?_eq_some_iff.1 hx).2
      have HXc := Lib.hid hx
      clear hx
      obtain ⟨f0, f1, f2, f3, fl⟩ := sc.four 0 rfl
      have t2 : (x != x) = false := by simp
      go_wp2_with fail
      replace sc := sc.drew
      go_region_held3 (fun w' => w'.cell? ⟨sG, 0, none⟩ = some (.int .i64 P) ∧ w'.cell? ⟨sG, 1, none⟩ = some (.int .i64 N) ∧ w'.cell? ⟨sG, 2, none⟩ = some (.int .i64 (M : Int)) ∧ w'.cell? ⟨sG, 3, none⟩ = some (.slice AG W.length cG) ∧ w'.cell? ⟨b, o + r, none⟩ = some (.int .i64 x)) (first | go_keep | (refine ⟨?_, ?_, ?_, ?_, ?_⟩ <;> assumption)) (first | (go_at_call 27; (with_reducible refine Calls.mono (implPackAt_any P N M AG cG W (r : Int) _ ?_ HWb.out) ?_); exact sc.lies 1 rfl; rintro e w7 ⟨rfl, hb⟩; rw [hpx]; replace sc := sc.step hb; clear hb; obtain ⟨b', o', x', hA', _, hx', hc'⟩ := (sc.lies 4 rfl (f := I) (L := L)).at_ hrl; obtain ⟨k0, k1, k2, k3, kl⟩ := sc.four 0 rfl; obtain ⟨rfl, rfl⟩ := addr_same hA'; obtain rfl := Option.some.inj (hx'.symm.trans HXc.out)))
      clear f0 f1 f2 f3 fl hc
      obtain ⟨f0, f1, f2, f3, fl⟩ := sc.four 0 rfl
      go_wp2_with fail
      clear f0 f1 f2 f3 fl
      refine (implPackList_any P N M AG cG W _ (sc.lies 1 rfl) HWb.out).mono ?_
      rintro e w8 ⟨AL, cL, rfl, ho, hb⟩
      rw [HPl.out] at ho ⊢
      replace sc := sc.row hb ho
      clear hb ho
      go_wp2_with fail
      refine (sameInt _ _ _ _ L L _ (sc.lies 0 rfl) (sc.lies 5 rfl) (by omega)).mono ?_
      rintro e w9 ⟨rfl, q9, rfl⟩
      rw [decide_eq_true rfl]
      replace sc := sc.draw q9
      generalize w8.drewN q9 = w9 at *
      obtain ⟨f0, f1, f2, f3, fl⟩ := sc.four 1 rfl
      have t5 : ((M : Int) == (M : Int)) = true := by simp
      go_wp2_with fail
      clear f0 f1 f2 f3 fl
      refine (implPackAt_any P N M AG cG W (L.length : Int) _ (sc.lies 2 rfl) HWb.out).mono ?_
      rintro e w10 ⟨rfl, hb⟩
      rw [HPe.out]
      replace sc := sc.step hb
      have HB := Lib.hid sc.below
      clear hb sc
      go_wp2
      go_ret
      exact ⟨rfl, HB.out⟩
    · have t1 : decide ((r : Int) < (L.length : Int)) = false := by simp; omega
      have t1n : decide (r < L.length) = false := by simp; omega
      obtain ⟨f0, f1, f2, f3, fl⟩ := sc.four 0 rfl
      go_wp2_with fail
      go_quiet (fail)
      replace sc := sc.draw nq
      generalize w5.drewN nq = w7 at *
      clear f0 f1 f2 f3 fl
      obtain ⟨f0, f1, f2, f3, fl⟩ := sc.four 0 rfl
      go_wp2_with fail
      clear f0 f1 f2 f3 fl
      refine (implPackList_any P N M AG cG W _ (sc.lies 1 rfl) HWb.out).mono ?_
      rintro e w8 ⟨AL, cL, rfl, ho, hb⟩
      rw [HPl.out] at ho ⊢
      replace sc := sc.row hb ho
      clear hb ho
      go_wp2_with fail
      refine (sameInt _ _ _ _ L L _ (sc.lies 0 rfl) (sc.lies 5 rfl) (by omega)).mono ?_
      rintro e w9 ⟨rfl, q9, rfl⟩
      rw [decide_eq_true rfl]
      replace sc := sc.draw q9
      generalize w8.drewN q9 = w9 at *
      obtain ⟨f0, f1, f2, f3, fl⟩ := sc.four 1 rfl
      have t5 : ((M : Int) == (M : Int)) = true := by simp
      go_wp2_with fail
      clear f0 f1 f2 f3 fl
      refine (implPackAt_any P N M AG cG W (L.length : Int) _ (sc.lies 2 rfl) HWb.out).mono ?_
      rintro e w10 ⟨rfl, hb⟩
      rw [HPe.out]
      replace sc := sc.step hb
      have HB := Lib.hid sc.below
      clear hb sc
      go_wp2
      go_ret
      exact ⟨rfl, HB.out⟩

end Go.Proofs.Yticndfdicalmcaa
