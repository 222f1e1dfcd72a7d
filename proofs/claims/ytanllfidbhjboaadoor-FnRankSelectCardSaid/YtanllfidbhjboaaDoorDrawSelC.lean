/- The draw of Select's arguments. -/
import Derived.Test.YtanllfidbhjboaaDoorDrawSelB
import Derived.Deep.DeepCutAuto
namespace Go.Proofs.YtanllfidbhjboaaDoor
open Go.RowKit
set_option maxRecDepth 100000

set_option maxHeartbeats 3200000 in
theorem drawSel_any (A : Option Addr) (c : Nat) (D : List Nat) (w : World) (hD : Lies w B8 A D) (hw : ∀ x ∈ D, x < 2 ^ 8) (hl : D.length ≤ 1048576) :
    Calls Tryd.prog 8 #[.slice A D.length c] w (DrewS w) := by
  obtain ⟨w0, hw0⟩ : ∃ w0, w.alloc (Obj.cells #[.int .i64 0, .slice none 0 0] 26) = w0 := ⟨_, rfl⟩
  have hbA : Below w.heap.size w w0 := by rw [← hw0]; exact (Below.refl _ _).alloc (Nat.le_refl _) _
  have hr0 : Box w0 w.heap.size 26 #[.int .i64 0, .slice none 0 0] := by rw [← hw0]; exact Box.made _ _ _
  have HO := Lib.hid (open_any A c D w0 (hD.below hbA) hw hl)
  have HB := Lib.hid hbA
  have HR0 := Lib.hid hr0
  have hs0 : w.heap.size + 1 = w0.heap.size := by rw [← hw0]; simp
  clear hD hw hbA hr0
  go_enter Tryd.func8, Tryd.ntmps8
  go_wp2_with fail
  clear hw0
  refine HO.out.mono ?_
  rintro e w1 ⟨rfl, hc1, hb1⟩
  have hgl := hc1.lt
  have HB1 : Hid (Below w.heap.size w w1) := Lib.hid (HB.out.trans (hb1.mono (by omega)))
  have HQ := Lib.hid (HR0.out.below hb1 (by omega))
  generalize hgg : w0.heap.size = g at *
  generalize hss : w.heap.size = s at *
  have hsg : s < g := by omega
  clear HO HB HR0 hb1
  go_wp2_with fail
  refine (badBits_any g A c D 0 w1 hc1 (by omega)).mono ?_
  rintro e w2 ⟨N, A1, c1, L, rfl, ho1, hL, hL8, hN, hc2, hg2⟩
  replace HQ := Lib.hid (HQ.out.grown hg2 (fun e => by have := Option.some.inj e; omega))
  have H1 := Lib.hid (show _ ∧ _ ∧ _ from ⟨ho1, hg2, hL⟩)
  have hgl2 : g < w2.heap.size := hc2.lt
  obtain ⟨q, hq⟩ : ∃ q : Nat, (if (0 : Int) < N then N else 0) = (q : Int) := ⟨if (0 : Int) < N then N.toNat else 0, by split <;> omega⟩
  obtain ⟨p, hp⟩ : ∃ p : Nat, (if (q : Int) < 300 then (q : Int) else 300) = (p : Int) := ⟨if (q : Int) < 300 then q else 300, by split <;> omega⟩
  have hp3 : p ≤ 300 := by split at hp <;> omega
  have HNE : Hid (¬ w2.heap.size = s) := Lib.hid (by have := HQ.out.lt; omega)
  clear ho1 hg2 hL hc1
  go_wp2_with fail
  have HI : Hid (SelInv w2 g A c D (0 + 6010) w2.heap.size s N A1 c1 L (w2.alloc (Obj.cells #[.int .i64 N, .slice A1 L.length c1] 26))) := Lib.hid ⟨cur_alloc hc2 _, World.grownBy_alloc _ _ _, Box.made _ _ _, HQ.out.alloc _, by omega, by omega⟩
  generalize w2.alloc (Obj.cells #[.int .i64 N, .slice A1 L.length c1] 26) = w3 at *
  clear HQ hc2
  refine (pick_any g A c D (0 + 6010) 2 w3 HI.out.cur (by omega) (by omega)).mono ?_
  rintro e w4 ⟨r, rfl, hr, _, hc4, hg4⟩
  have hr2 : (r : Int) < 2 := hr (by omega)
  replace HI := Lib.hid (HI.out.past hc4 hg4)
  clear hr hc4 hg4
  go_upto_if 15 with ((go_at_call 30; refine Calls.mono (once_any g A c D (0 + 6010 + 1) 12 w4 HI.out.cur (by omega) (by omega)) ?_; rintro e w5 ⟨b, rfl, hc5, hg5⟩; replace HI := Lib.hid (HI.out.past hc5 hg5); clear hc5 hg5))
  go_cut [7] (fun bit wc => ∃ y : Int, bit = .int .i64 y ∧ (-9223372036854775808 ≤ y ∧ y ≤ 9223372036854775807) ∧ SelInv w2 g A c D (0 + 6010 + 1 + 1 + 2) w2.heap.size s N A1 c1 L wc)
  case first =>
    cases b
    · go_wp2_with fail
      go_meet
      case rel => exact ⟨r, rfl, by omega, HI.out.more (by omega)⟩
    · go_wp2_with fail
      refine (raw_any g A c D (0 + 6010 + 1 + 1) w5 HI.out.cur (by omega)).mono ?_
      rintro e w55 ⟨x, rfl, hx, hc55, hg55⟩
      replace HI := Lib.hid (HI.out.past hc55 hg55)
      have HX := Lib.hid hx
      clear hx hc55 hg55
      go_wp2_with fail
      go_meet
      case rel => exact ⟨x, rfl, HX.out, HI.out⟩
  case rest =>
    obtain ⟨y, rfl, hy, inv⟩ := hcut
    replace inv := inv.drew
    have HY := Lib.hid hy
    have hbs := HNE.out
    clear hy
    go_wp2_with fail
    refine wp_region_held_drew (S := fun w' => w'.cell? ⟨w2.heap.size, 0, none⟩ = some (.int .i64 N) ∧ w'.cell? ⟨w2.heap.size, 1, none⟩ = some (.slice A1 L.length c1)) (by kernel_rfl) inv.cells (fun hHeld => ?_)
    refine wpAnyH_take (i := 0) (oi := _) (v := ?_) rfl (by kernel_rfl) (by kernel_rfl) (by kernel_rfl) (fun _ _ _ h => h) (Or.inl ⟨by rfl, ?_⟩) (by assumption) ?_
    rotate_left
    · intro w' hSw
      (try dsimp only at hSw)
      go_simp
      (try with_reducible rfl)
    (try simp only [Act.put, List.getElem_toArray, List.getElem_cons_zero, List.getElem_cons_succ, List.setIfInBounds_toArray, List.set_cons_zero, List.set_cons_succ])
    refine wpAnyH_take (i := 1) (oi := _) (v := ?_) rfl (by kernel_rfl) (by kernel_rfl) (by kernel_rfl) (fun _ _ _ h => h) (Or.inl ⟨by rfl, ?_⟩) (by assumption) ?_
    rotate_left
    · intro w' hSw
      (try dsimp only at hSw)
      go_simp
      (try with_reducible rfl)
    (try simp only [Act.put, List.getElem_toArray, List.getElem_cons_zero, List.getElem_cons_succ, List.setIfInBounds_toArray, List.set_cons_zero, List.set_cons_succ])
    refine wpAnyH_take (i := 2) (oi := _) (v := ?_) rfl (by kernel_rfl) (by kernel_rfl) (by kernel_rfl) (fun _ _ _ h => h) (Or.inl ⟨by rfl, ?_⟩) (by assumption) ?_
    rotate_left
    · intro w' hSw
      (try dsimp only at hSw)
      go_simp
      (try with_reducible rfl)
    (try simp only [Act.put, List.getElem_toArray, List.getElem_cons_zero, List.getElem_cons_succ, List.setIfInBounds_toArray, List.set_cons_zero, List.set_cons_succ])
    refine wpAnyH_take (i := 4) (oi := _) (v := ?_) rfl (by kernel_rfl) (by kernel_rfl) (by kernel_rfl) (fun _ _ _ h => h) (Or.inl ⟨by rfl, ?_⟩) (by assumption) ?_
    rotate_left
    · intro w' hSw
      (try dsimp only at hSw)
      go_simp
      (try with_reducible rfl)
    (try simp only [Act.put, List.getElem_toArray, List.getElem_cons_zero, List.getElem_cons_succ, List.setIfInBounds_toArray, List.set_cons_zero, List.set_cons_succ])
    refine wpAnyH_take (i := 5) (oi := _) (v := ?_) rfl (by kernel_rfl) (by kernel_rfl) (by kernel_rfl) (fun _ _ _ h => h) (Or.inl ⟨by rfl, ?_⟩) (by assumption) ?_
    rotate_left
    · intro w' hSw
      (try dsimp only at hSw)
      go_simp
      (try with_reducible rfl)
    (try simp only [Act.put, List.getElem_toArray, List.getElem_cons_zero, List.getElem_cons_succ, List.setIfInBounds_toArray, List.set_cons_zero, List.set_cons_succ])
    refine wpAnyH_take (i := 6) (oi := _) (v := ?_) rfl (by kernel_rfl) (by kernel_rfl) (by kernel_rfl) (fun _ _ _ h => h) (Or.inl ⟨by rfl, ?_⟩) (by assumption) ?_
    rotate_left
    · intro w' hSw
      (try dsimp only at hSw)
      go_simp
      (try with_reducible rfl)
    (try simp only [Act.put, List.getElem_toArray, List.getElem_cons_zero, List.getElem_cons_succ, List.setIfInBounds_toArray, List.set_cons_zero, List.set_cons_succ])
    refine wpAnyH_take (i := 7) (oi := _) (v := ?_) rfl (by kernel_rfl) (by kernel_rfl) (by kernel_rfl) (fun _ _ _ h => h) (Or.inl ⟨by rfl, ?_⟩) (by assumption) ?_
    rotate_left
    · intro w' hSw
      (try dsimp only at hSw)
      go_simp
      (try with_reducible rfl)
    (try simp only [Act.put, List.getElem_toArray, List.getElem_cons_zero, List.getElem_cons_succ, List.setIfInBounds_toArray, List.set_cons_zero, List.set_cons_succ])
    refine wpAnyH_take (i := 8) (oi := _) (v := ?_) rfl (by kernel_rfl) (by kernel_rfl) (by kernel_rfl) (fun _ _ _ h => h) (Or.inl ⟨by rfl, ?_⟩) (by assumption) ?_
    rotate_left
    · intro w' hSw
      (try dsimp only at hSw)
      go_simp
      (try with_reducible rfl)
    (try simp only [Act.put, List.getElem_toArray, List.getElem_cons_zero, List.getElem_cons_succ, List.setIfInBounds_toArray, List.set_cons_zero, List.set_cons_succ])
    refine wpAnyH_take (i := 11) (oi := _) (v := ?_) rfl (by kernel_rfl) (by kernel_rfl) (by kernel_rfl) (fun _ _ _ h => h) (Or.inl ⟨by rfl, ?_⟩) (by assumption) ?_
    rotate_left
    · intro w' hSw
      (try dsimp only at hSw)
      go_simp
      (try with_reducible rfl)
    (try simp only [Act.put, List.getElem_toArray, List.getElem_cons_zero, List.getElem_cons_succ, List.setIfInBounds_toArray, List.set_cons_zero, List.set_cons_succ])
    refine wpAnyH_ready (rs := [3]) (by kernel_rfl) (by simp) ?_
    refine AllReadyH.cons (o := _) rfl (fun K hK => ?_) AllReadyH.nil
    go_simp
    go_at_call 29
    refine Calls.mono (pick_any g A c D (0 + 6010 + 1 + 1 + 2) 20 _ inv.cur (by omega) (by omega)) ?_
    rintro e w6 ⟨r6, rfl, hr6, _, hc6, hg6⟩
    replace inv := inv.past hc6 hg6
    have B6 : Hid ((r6 : Int) < 20) := Lib.hid (hr6 (by omega))
    clear hc6 hg6 hr6
    go_wp2_with fail
    refine hK.out _ _ ?_ (fun hHeld => ?_)
    · exact inv.cells
    clear hK K
    (try simp only [Act.put, List.getElem_toArray, List.getElem_cons_zero, List.getElem_cons_succ, List.setIfInBounds_toArray, List.set_cons_zero, List.set_cons_succ])
    refine wpAnyH_ready (rs := [9]) (by kernel_rfl) (by simp) ?_
    refine AllReadyH.cons (o := _) rfl (fun K hK => ?_) AllReadyH.nil
    go_simp
    go_at_call 32
    refine Calls.mono (place_any g A c D (0 + 6010 + 1 + 1 + 2 + 1) p _ inv.cur (by omega) (by omega)) ?_
    rintro e w7 ⟨x7, rfl, hx7, hc7, hg7⟩
    replace inv := inv.past hc7 hg7
    have B7 := Lib.hid hx7
    clear hc7 hg7 hx7
    go_wp2_with fail
    refine hK.out _ _ ?_ (fun hHeld => ?_)
    · exact inv.cells
    clear hK K
    (try simp only [Act.put, List.getElem_toArray, List.getElem_cons_zero, List.getElem_cons_succ, List.setIfInBounds_toArray, List.set_cons_zero, List.set_cons_succ])
    refine wpAnyH_ready (rs := [10, 12]) (by kernel_rfl) (by simp) ?_
    refine AllReadyH.cons (o := _) rfl (fun K hK => ?_) (AllReadyH.cons (o := _) rfl (fun K hK => ?_) AllReadyH.nil)
    · go_simp
      refine hK.out _ _ ?_ (fun hHeld => ?_)
      · exact (inv.alloc _).cells
      clear hK K
      (try simp only [Act.put, List.getElem_toArray, List.getElem_cons_zero, List.getElem_cons_succ, List.setIfInBounds_toArray, List.set_cons_zero, List.set_cons_succ])
      refine wpAnyH_ready (rs := [12]) (by kernel_rfl) (by simp) ?_
      refine AllReadyH.cons (o := _) rfl (fun K hK => ?_) AllReadyH.nil
      go_simp
      go_at_call 29
      refine Calls.mono (pick_any g A c D (0 + 6010 + 1 + 1 + 2 + 1 + 5) 2 _ (inv.alloc _).cur (by omega) (by omega)) ?_
      rintro e w8 ⟨q2, rfl, hq2, _, hc8, hg8⟩
      have hq22 : (q2 : Int) < 2 := hq2 (by omega)
      have hlt7 := inv.cur.lt
      obtain ⟨v, hv, hcell⟩ := table_at (L := [(r6 : Int), x7]) (box_kept (Box.made w7 3 #[Value.int IntKind.i64 r6, Value.int IntKind.i64 x7]) hg8 (by omega)) (i := q2) (by simp; omega)
      replace inv := (inv.alloc _).past hc8 hg8
      clear hq2 hc8 hg8
      obtain ⟨p0, p1, pz0, pz1, hpl⟩ := inv.resCells
      go_wp2_with fail
      refine hK.out _ _ ?_ (fun hHeld => ?_)
      · exact inv.cells
      clear hK K
      (try simp only [Act.put, List.getElem_toArray, List.getElem_cons_zero, List.getElem_cons_succ, List.setIfInBounds_toArray, List.set_cons_zero, List.set_cons_succ])
      refine wpAnyH_take (i := 13) (oi := _) (v := ?_) rfl (by kernel_rfl) (by kernel_rfl) (by kernel_rfl) (fun _ _ _ h => h) (Or.inl ⟨by rfl, ?_⟩) (by assumption) ?_
      rotate_left
      · intro w' hSw
        (try dsimp only at hSw)
        go_simp
        (try with_reducible rfl)
      (try simp only [Act.put, List.getElem_toArray, List.getElem_cons_zero, List.getElem_cons_succ, List.setIfInBounds_toArray, List.set_cons_zero, List.set_cons_succ])
      refine held_more (S' := fun w' => (w'.cell? ⟨w2.heap.size, 0, none⟩ = some (.int .i64 N) ∧ w'.cell? ⟨w2.heap.size, 1, none⟩ = some (.slice A1 L.length c1)) ∧ w'.cell? ⟨w7.heap.size, q2, none⟩ = some (.int .i64 v)) (fun _ h => h.1) _ _ _ _ ?_
      replace hHeld : (fun w' : World => (w'.cell? ⟨w2.heap.size, 0, none⟩ = some (.int .i64 N) ∧ w'.cell? ⟨w2.heap.size, 1, none⟩ = some (.slice A1 L.length c1)) ∧ w'.cell? ⟨w7.heap.size, q2, none⟩ = some (.int .i64 v)) _ := ⟨hHeld, hcell⟩
      refine wpAnyH_take (i := 14) (oi := _) (v := ?_) rfl (by kernel_rfl) (by kernel_rfl) (by kernel_rfl) (fun _ _ _ h => h) (Or.inl ⟨by rfl, ?_⟩) (by assumption) ?_
      rotate_left
      · intro w' hSw
        (try dsimp only at hSw)
        go_simp
        (try with_reducible rfl)
      (try simp only [Act.put, List.getElem_toArray, List.getElem_cons_zero, List.getElem_cons_succ, List.setIfInBounds_toArray, List.set_cons_zero, List.set_cons_succ])
      refine wpAnyH_ready (rs := [15]) (by kernel_rfl) (by simp) ?_
      refine AllReadyH.cons (o := _) rfl (fun K hK => ?_) AllReadyH.nil
      go_simp
      refine hK.out _ _ ?_ (fun hHeld => ?_)
      · exact ⟨inv.cellsPut hbs _ _, cell_off2 hcell (by omega) _ _⟩
      clear hK K
      (try simp only [Act.put, List.getElem_toArray, List.getElem_cons_zero, List.getElem_cons_succ, List.setIfInBounds_toArray, List.set_cons_zero, List.set_cons_succ])
      refine wpAnyH_take (i := 16) (oi := _) (v := ?_) rfl (by kernel_rfl) (by kernel_rfl) (by kernel_rfl) (fun _ _ _ h => h) (Or.inl ⟨by rfl, ?_⟩) (by assumption) ?_
      rotate_left
      · intro w' hSw
        (try dsimp only at hSw)
        go_simp
        (try with_reducible rfl)
      (try simp only [Act.put, List.getElem_toArray, List.getElem_cons_zero, List.getElem_cons_succ, List.setIfInBounds_toArray, List.set_cons_zero, List.set_cons_succ])
      refine wpAnyH_take (i := 17) (oi := _) (v := ?_) rfl (by kernel_rfl) (by kernel_rfl) (by kernel_rfl) (fun _ _ _ h => h) (Or.inl ⟨by rfl, ?_⟩) (by assumption) ?_
      rotate_left
      · intro w' hSw
        (try dsimp only at hSw)
        go_simp
        (try with_reducible rfl)
      (try simp only [Act.put, List.getElem_toArray, List.getElem_cons_zero, List.getElem_cons_succ, List.setIfInBounds_toArray, List.set_cons_zero, List.set_cons_succ])
      refine wpAnyH_done (by kernel_rfl) ?_ _
      have HV : Hid (-9223372036854775808 ≤ v ∧ v ≤ 9223372036854775807) := Lib.hid (by
        have := B6.out
        have := B7.out
        simp at hv
        omega)
      have HI := Lib.hid inv
      clear inv hcell hv hHeld
      go_wp2
      refine bodyPost_ret (v := .tuple #[.agg #[.int .i64 N, .slice A1 L.length c1], .int .i64 y, .int .i64 v]) (by simp [results, Tryd.results8, go_sem, p0, p1, hpl]) rfl ?_
      exact drewS_end hss HB1.out hsg hgl H1.out.1 H1.out.2.1 HI.out.grown H1.out.2.2 hL8 hN HY.out HV.out _ _
    · go_simp
      go_at_call 29
      refine Calls.mono (pick_any g A c D (0 + 6010 + 1 + 1 + 2 + 1 + 5) 2 _ inv.cur (by omega) (by omega)) ?_
      rintro e w8 ⟨q2, rfl, hq2, _, hc8, hg8⟩
      have hq22 : (q2 : Int) < 2 := hq2 (by omega)
      replace inv := inv.past hc8 hg8
      obtain ⟨v, hv, hi1, hi2, hcell, hcp⟩ := table_put (L := [(r6 : Int), x7]) w8 s 3 (i := q2) (by simp; omega)
      simp only [List.map_cons, List.map_nil, I] at hi1 hi2 hcell hcp
      clear hq2 hc8 hg8
      obtain ⟨p0, p1, pz0, pz1, hpl⟩ := inv.resCells
      go_wp2_with fail
      refine hK.out _ _ ?_ (fun hHeld => ?_)
      · exact inv.cells
      clear hK K
      (try simp only [Act.put, List.getElem_toArray, List.getElem_cons_zero, List.getElem_cons_succ, List.setIfInBounds_toArray, List.set_cons_zero, List.set_cons_succ])
      refine wpAnyH_ready (rs := [10, 15]) (by kernel_rfl) (by simp) ?_
      refine AllReadyH.cons (o := _) rfl (fun K hK => ?_) (AllReadyH.cons (o := _) rfl (fun K hK => ?_) AllReadyH.nil)
      · go_simp
        refine hK.out _ _ ?_ (fun hHeld => ?_)
        · exact (inv.alloc _).cells
        clear hK K
        (try simp only [Act.put, List.getElem_toArray, List.getElem_cons_zero, List.getElem_cons_succ, List.setIfInBounds_toArray, List.set_cons_zero, List.set_cons_succ])
        refine wpAnyH_take (i := 13) (oi := _) (v := ?_) rfl (by kernel_rfl) (by kernel_rfl) (by kernel_rfl) (fun _ _ _ h => h) (Or.inl ⟨by rfl, ?_⟩) (by assumption) ?_
        rotate_left
        · intro w' hSw
          (try dsimp only at hSw)
          go_simp
          (try with_reducible rfl)
        (try simp only [Act.put, List.getElem_toArray, List.getElem_cons_zero, List.getElem_cons_succ, List.setIfInBounds_toArray, List.set_cons_zero, List.set_cons_succ])
        refine held_more (S' := fun w' => (w'.cell? ⟨w2.heap.size, 0, none⟩ = some (.int .i64 N) ∧ w'.cell? ⟨w2.heap.size, 1, none⟩ = some (.slice A1 L.length c1)) ∧ w'.cell? ⟨w8.heap.size, q2, none⟩ = some (.int .i64 v)) (fun _ h => h.1) _ _ _ _ ?_
        replace hHeld : (fun w' : World => (w'.cell? ⟨w2.heap.size, 0, none⟩ = some (.int .i64 N) ∧ w'.cell? ⟨w2.heap.size, 1, none⟩ = some (.slice A1 L.length c1)) ∧ w'.cell? ⟨w8.heap.size, q2, none⟩ = some (.int .i64 v)) _ := ⟨hHeld, hcell⟩
        refine wpAnyH_take (i := 14) (oi := _) (v := ?_) rfl (by kernel_rfl) (by kernel_rfl) (by kernel_rfl) (fun _ _ _ h => h) (Or.inl ⟨by rfl, ?_⟩) (by assumption) ?_
        rotate_left
        · intro w' hSw
          (try dsimp only at hSw)
          go_simp
          (try with_reducible rfl)
        (try simp only [Act.put, List.getElem_toArray, List.getElem_cons_zero, List.getElem_cons_succ, List.setIfInBounds_toArray, List.set_cons_zero, List.set_cons_succ])
        refine wpAnyH_ready (rs := [15]) (by kernel_rfl) (by simp) ?_
        refine AllReadyH.cons (o := _) rfl (fun K hK => ?_) AllReadyH.nil
        go_simp
        refine hK.out _ _ ?_ (fun hHeld => ?_)
        · exact ⟨inv.cellsPutAlloc hbs _ _ _, hcp _ _⟩
        clear hK K
        (try simp only [Act.put, List.getElem_toArray, List.getElem_cons_zero, List.getElem_cons_succ, List.setIfInBounds_toArray, List.set_cons_zero, List.set_cons_succ])
        refine wpAnyH_take (i := 16) (oi := _) (v := ?_) rfl (by kernel_rfl) (by kernel_rfl) (by kernel_rfl) (fun _ _ _ h => h) (Or.inl ⟨by rfl, ?_⟩) (by assumption) ?_
        rotate_left
        · intro w' hSw
          (try dsimp only at hSw)
          go_simp
          (try with_reducible rfl)
        (try simp only [Act.put, List.getElem_toArray, List.getElem_cons_zero, List.getElem_cons_succ, List.setIfInBounds_toArray, List.set_cons_zero, List.set_cons_succ])
        refine wpAnyH_take (i := 17) (oi := _) (v := ?_) rfl (by kernel_rfl) (by kernel_rfl) (by kernel_rfl) (fun _ _ _ h => h) (Or.inl ⟨by rfl, ?_⟩) (by assumption) ?_
        rotate_left
        · intro w' hSw
          (try dsimp only at hSw)
          go_simp
          (try with_reducible rfl)
        (try simp only [Act.put, List.getElem_toArray, List.getElem_cons_zero, List.getElem_cons_succ, List.setIfInBounds_toArray, List.set_cons_zero, List.set_cons_succ])
        refine wpAnyH_done (by kernel_rfl) ?_ _
        have HV : Hid (-9223372036854775808 ≤ v ∧ v ≤ 9223372036854775807) := Lib.hid (by
          have := B6.out
          have := B7.out
          simp at hv
          omega)
        have HI := Lib.hid inv
        clear inv hcell hv hHeld
        go_wp2
        refine bodyPost_ret (v := .tuple #[.agg #[.int .i64 N, .slice A1 L.length c1], .int .i64 y, .int .i64 v]) (by simp [results, Tryd.results8, go_sem, p0, p1, hpl]) rfl ?_
        exact drewS_alloc (drewS_end hss HB1.out hsg hgl H1.out.1 H1.out.2.1 HI.out.grown H1.out.2.2 hL8 hN HY.out HV.out _ _) _
      · go_simp
        refine hK.out _ _ ?_ (fun hHeld => ?_)
        · exact inv.cellsPut hbs _ _
        clear hK K
        (try simp only [Act.put, List.getElem_toArray, List.getElem_cons_zero, List.getElem_cons_succ, List.setIfInBounds_toArray, List.set_cons_zero, List.set_cons_succ])
        refine wpAnyH_take (i := 16) (oi := _) (v := ?_) rfl (by kernel_rfl) (by kernel_rfl) (by kernel_rfl) (fun _ _ _ h => h) (Or.inl ⟨by rfl, ?_⟩) (by assumption) ?_
        rotate_left
        · intro w' hSw
          (try dsimp only at hSw)
          go_simp
          (try with_reducible rfl)
        (try simp only [Act.put, List.getElem_toArray, List.getElem_cons_zero, List.getElem_cons_succ, List.setIfInBounds_toArray, List.set_cons_zero, List.set_cons_succ])
        refine wpAnyH_ready (rs := [10]) (by kernel_rfl) (by simp) ?_
        refine AllReadyH.cons (o := _) rfl (fun K hK => ?_) AllReadyH.nil
        go_simp
        refine hK.out _ _ ?_ (fun hHeld => ?_)
        · exact inv.cellsPutAlloc hbs _ _ _
        clear hK K
        (try simp only [Act.put, List.getElem_toArray, List.getElem_cons_zero, List.getElem_cons_succ, List.setIfInBounds_toArray, List.set_cons_zero, List.set_cons_succ])
        refine wpAnyH_take (i := 13) (oi := _) (v := ?_) rfl (by kernel_rfl) (by kernel_rfl) (by kernel_rfl) (fun _ _ _ h => h) (Or.inl ⟨by rfl, ?_⟩) (by assumption) ?_
        rotate_left
        · intro w' hSw
          (try dsimp only at hSw)
          go_simp
          (try with_reducible rfl)
        (try simp only [Act.put, List.getElem_toArray, List.getElem_cons_zero, List.getElem_cons_succ, List.setIfInBounds_toArray, List.set_cons_zero, List.set_cons_succ])
        refine held_more (S' := fun w' => (w'.cell? ⟨w2.heap.size, 0, none⟩ = some (.int .i64 N) ∧ w'.cell? ⟨w2.heap.size, 1, none⟩ = some (.slice A1 L.length c1)) ∧ w'.cell? ⟨w8.heap.size, q2, none⟩ = some (.int .i64 v)) (fun _ h => h.1) _ _ _ _ ?_
        replace hHeld : (fun w' : World => (w'.cell? ⟨w2.heap.size, 0, none⟩ = some (.int .i64 N) ∧ w'.cell? ⟨w2.heap.size, 1, none⟩ = some (.slice A1 L.length c1)) ∧ w'.cell? ⟨w8.heap.size, q2, none⟩ = some (.int .i64 v)) _ := ⟨hHeld, hcp _ _⟩
        refine wpAnyH_take (i := 14) (oi := _) (v := ?_) rfl (by kernel_rfl) (by kernel_rfl) (by kernel_rfl) (fun _ _ _ h => h) (Or.inl ⟨by rfl, ?_⟩) (by assumption) ?_
        rotate_left
        · intro w' hSw
          (try dsimp only at hSw)
          go_simp
          (try with_reducible rfl)
        (try simp only [Act.put, List.getElem_toArray, List.getElem_cons_zero, List.getElem_cons_succ, List.setIfInBounds_toArray, List.set_cons_zero, List.set_cons_succ])
        refine wpAnyH_take (i := 17) (oi := _) (v := ?_) rfl (by kernel_rfl) (by kernel_rfl) (by kernel_rfl) (fun _ _ _ h => h) (Or.inl ⟨by rfl, ?_⟩) (by assumption) ?_
        rotate_left
        · intro w' hSw
          (try dsimp only at hSw)
          go_simp
          (try with_reducible rfl)
        (try simp only [Act.put, List.getElem_toArray, List.getElem_cons_zero, List.getElem_cons_succ, List.setIfInBounds_toArray, List.set_cons_zero, List.set_cons_succ])
        refine wpAnyH_done (by kernel_rfl) ?_ _
        have HV : Hid (-9223372036854775808 ≤ v ∧ v ≤ 9223372036854775807) := Lib.hid (by
          have := B6.out
          have := B7.out
          simp at hv
          omega)
        have HI := Lib.hid inv
        clear inv hcell hv hHeld
        go_wp2
        refine bodyPost_ret (v := .tuple #[.agg #[.int .i64 N, .slice A1 L.length c1], .int .i64 y, .int .i64 v]) (by simp [results, Tryd.results8, go_sem, p0, p1, hpl]) rfl ?_
        exact drewS_alloc (drewS_end hss HB1.out hsg hgl H1.out.1 H1.out.2.1 HI.out.grown H1.out.2.2 hL8 hN HY.out HV.out _ _) _

end Go.Proofs.YtanllfidbhjboaaDoor
