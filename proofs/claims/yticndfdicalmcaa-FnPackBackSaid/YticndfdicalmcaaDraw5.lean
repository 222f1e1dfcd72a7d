/- The draw of PackOf, whole. -/
import Derived.Test.YticndfdicalmcaaDraw4
namespace Go.Proofs.Yticndfdicalmcaa
open Go.RowKit

/-- Numbers and a width that PackOf is tried at. -/
def DrewP (w : World) (e : Ending) (w' : World) : Prop := ∃ (L : List Int) (wd : Int) (v : Value), e = .returned (.tuple #[v, .int .i64 wd]) ∧ w'.ownsRow w.heap.size 3 1 v L.length (L.map I) ∧ L.length ≤ 5001 ∧ Below w.heap.size w w'

theorem own_past {w w' : World} {b g : Nat} {e : TypeId} {n : Nat} {v : Value} {xs : List Value} (h : w.ownsRow b e 1 v n xs) (hg : w.grownBy w' (some g)) (hb : g < b) : w'.ownsRow b e 1 v n xs :=
  own_turn2 h fun k hk => hg.block k (h.lt k hk).2 fun e => by
    have := (h.lt k hk).1
    have := Option.some.inj e
    omega

set_option maxRecDepth 100000 in
set_option maxHeartbeats 1600000 in
theorem drawPack_any (A : Option Addr) (c : Nat) (D : List Nat) (w : World) (hD : Lies w B8 A D) (hw : ∀ x ∈ D, x < 2 ^ 8) (hl : D.length ≤ 1048576) :
    Calls Try.prog 24 #[.slice A D.length c] w (DrewP w) := by
  obtain ⟨i0, hi, hz0, hz1, hz2⟩ := info_parts Try.infoInt
  have HO := Lib.hid (open_any A c D w hD hw hl)
  clear hD hw
  go_enter Try.func24, Try.ntmps24
  go_wp2_with fail
  refine HO.out.mono ?_
  rintro e w1 ⟨rfl, hc1, hb1⟩
  have HB1 := Lib.hid hb1
  generalize hg : w.heap.size = g at *
  clear hb1
  go_wp2_with fail
  refine (raw_any g A c D 0 w1 hc1 (by omega)).mono ?_
  rintro e w2 ⟨r2, rfl, _, hc2, hg2⟩
  have HG2 := Lib.hid hg2
  clear hg2 hc1
  go_wp2_with fail
  have hbx := Box.made w2 3 #[Value.int IntKind.i64 0, Value.int IntKind.i64 1, Value.int IntKind.i64 3, Value.int IntKind.i64 7, Value.int IntKind.i64 24, Value.int IntKind.i64 32, Value.int IntKind.i64 r2]
  have hlt := hc2.lt
  refine (pick_any g A c D 2 7 _ (cur_alloc hc2 _) (by omega) (by omega)).mono ?_
  rintro e w3 ⟨q, rfl, hq, _, hc3, hg3⟩
  have hq3 : (q : Int) < 7 := hq (by omega)
  obtain ⟨wd, _, hcell⟩ := table_at (L := [0, 1, 3, 7, 24, 32, r2]) (box_kept hbx hg3 (by omega)) (i := q) (by simp; omega)
  have HG3 := Lib.hid (HG2.out.trans ((World.grownBy_alloc w2 _ (some g)).trans hg3))
  obtain ⟨y, hy⟩ : ∃ y, (if 0 < wd then wd else 0) = y := ⟨_, rfl⟩
  have hy0 : 0 ≤ y := by rw [← hy]; split <;> omega
  obtain ⟨ex, hex⟩ : ∃ ex : Nat, (if y < 24 then y else 24) = (ex : Int) := ⟨(if y < 24 then y else 24).toNat, by split <;> omega⟩
  have hex24 : ex ≤ 24 := by split at hex <;> omega
  obtain ⟨p, hp⟩ : ∃ p, 2 ^ ex = p := ⟨_, rfl⟩
  have hp1 : 1 ≤ p := by rw [← hp]; exact Nat.two_pow_pos _
  have hp2 : p ≤ 16777216 := by rw [← hp]; exact Nat.pow_le_pow_right (by omega) hex24
  have CP : Hid (∀ W : World, Calls Try.prog 74 #[.int .i64 ex] W fun e w' => e = .returned (.int .i64 p) ∧ W = w') := Lib.hid fun W => (pow_any ex W (by omega)).mono fun e w' h => ⟨by rw [h.1, hp], h.2⟩
  clear hq hg3 hc2 hbx hp HG2
  go_wp2_with fail
  refine (CP.out _).mono ?_
  rintro e w3' ⟨rfl, rfl⟩
  go_wp2_with fail
  have hlt3 := hc3.lt
  refine (numbers_any g A c D 3 p w3 hc3 (by omega) hp1 (by omega)).mono ?_
  rintro e w4 ⟨v4, L4, rfl, ho4, hL4, hc4, hg4⟩
  have HG4 := Lib.hid (HG3.out.trans hg4)
  have HS3 : Hid (g ≤ w3.heap.size ∧ w3.heap.size ≤ w4.heap.size) := Lib.hid ⟨by omega, hg4.size⟩
  clear hg4 hc3 hcell HG3
  go_wp2_with fail
  refine (pick_any g A c D 64 9 w4 hc4 (by omega) (by omega)).mono ?_
  rintro e w5 ⟨r5, rfl, hr5, _, hc5, hg5⟩
  have hq5 : (r5 : Int) < 9 := hr5 (by omega)
  have HO5 := Lib.hid (own_past ho4 hg5 hlt3)
  have HG5 := Lib.hid (HG4.out.trans hg5)
  have HS5 : Hid (w3.heap.size ≤ w5.heap.size) := Lib.hid (Nat.le_trans HS3.out.2 hg5.size)
  clear hg5 hc4 hr5 ho4 HG4
  by_cases h0 : r5 = 0
  · have t0 : ((r5 : Int) == 0) = true := by rw [beq_iff_eq]; omega
    clear h0
    go_wp2_with fail
    refine (raw_any g A c D 65 w5 hc5 (by omega)).mono ?_
    rintro e w6 ⟨r6, rfl, _, hc6, hg6⟩
    have HO6 := Lib.hid (own_past HO5.out hg6 hlt3)
    have HG6 := Lib.hid (HG5.out.trans hg6)
    have HS6 : Hid (w3.heap.size ≤ w6.heap.size) := Lib.hid (Nat.le_trans HS5.out hg6.size)
    clear hg6 hc5
    go_wp2_with fail
    have hbx := Box.made w6 3 #[Value.int IntKind.i64 r6, Value.int IntKind.i64 4294967295, Value.int IntKind.i64 4294967296]
    have hlt6 := hc6.lt
    refine (pick_any g A c D 67 3 _ (cur_alloc hc6 _) (by omega) (by omega)).mono ?_
    rintro e w7 ⟨q7, rfl, hq7, _, hc7, hg7⟩
    have hq7' : (q7 : Int) < 3 := hq7 (by omega)
    obtain ⟨x, _, hcell⟩ := table_at (L := [r6, 4294967295, 4294967296]) (box_kept hbx hg7 (by omega)) (i := q7) (by simp; omega)
    have HO7 := Lib.hid (own_past (HO6.out.alloc _) hg7 hlt3)
    have HG7 := Lib.hid (HG6.out.trans ((World.grownBy_alloc w6 _ (some g)).trans hg7))
    have HS7 : Hid (w3.heap.size ≤ w7.heap.size) := Lib.hid (by have := hg7.size; have := HS6.out; simp at *; omega)
    clear hq7 hg7 hc6 hc7 hbx
    go_wp2_with (at_builtin; refine wpList_append_own _ rfl _ _ 35 rfl w3.heap.size 3 i0 (.int .i64 0) 1 8 Try.underlying35 hi hz0 hz1 hz2 rfl (by decide) _ _ _ rfl (HO7.out.alloc _) ⟨w7.heap.size, 0, none⟩ 1 1 [.int .i64 x] rfl rfl (cell_one_new _ _ _) (ints_oneCell .i64 [_]) (by unfold maxLen; omega) (by omega) (by have := HS7.out; simp; omega) ?_)
    intro v8 w8 ho8 hg8 _
    have HO8 := Lib.hid ho8
    have HG8 := Lib.hid hg8
    clear ho8 hg8
    go_wp2
    go_ret2
    refine ⟨L4 ++ [x], wd, v8, rfl, ?_, by simp; omega, ?_⟩
    · rw [List.length_append, List.map_append]
      exact own_mono HO8.out (by rw [hg]; exact HS3.out.1)
    · have hb := HB1.out
      rw [← hg] at hb
      have h7 : Below w.heap.size w w7 := grown_below2 hb HG7.out (by omega)
      have h8 := HS7.out
      have h9 := HS3.out.1
      exact (h7.alloc (by omega) _).grown HG8.out (by simp; omega) (fun j hj => by
        have := (HO7.out.lt j hj).1
        omega)
  · have t0 : ((r5 : Int) == 0) = false := by rw [beq_eq_false_iff_ne]; omega
    by_cases h1 : r5 = 1
    · have t1 : ((r5 : Int) == 1) = true := by rw [beq_iff_eq]; omega
      clear h0 h1
      go_wp2_with fail
      have hbx := Box.made w5 3 #[Value.int IntKind.i64 200, Value.int IntKind.i64 5000, Value.int IntKind.i64 5001]
      have hlt5 := hc5.lt
      refine (pick_any g A c D 65 3 _ (cur_alloc hc5 _) (by omega) (by omega)).mono ?_
      rintro e w6 ⟨q6, rfl, hq6, _, hc6, hg6⟩
      have hq6' : (q6 : Int) < 3 := hq6 (by omega)
      obtain ⟨x, hx, hcell⟩ := table_at (L := [200, 5000, 5001]) (box_kept hbx hg6 (by omega)) (i := q6) (by simp; omega)
      obtain ⟨n, rfl, hn⟩ : ∃ n : Nat, x = (n : Int) ∧ n ≤ 5001 := ⟨x.toNat, by simp at hx; omega, by simp at hx; omega⟩
      have HG6 := Lib.hid (HG5.out.trans ((World.grownBy_alloc w5 _ (some g)).trans hg6))
      have hmk := fun W => run_make_row' (P := Try.prog) 35 3 (.int .i64 0) 8 Try.underlying35 Try.infoInt rfl .i64 .i64 n (by omega) (by omega) W
      clear hq6 hg6 hc5 hc6 hbx hx
      go_wp2
      go_ret2
      refine ⟨List.replicate n 0, wd, .slice (some ⟨w6.heap.size, 0, none⟩) n n, rfl, ?_, by simp; omega, ?_⟩
      · have e1 : (List.replicate n (0 : Int)).map I = (madeCells #[Value.int IntKind.i64 0] n).toList := by rw [toList_madeCells_one, List.map_replicate]
        rw [List.length_replicate, e1]
        have hb := HB1.out.size
        have h6 := HG6.out.size
        exact own_mono (World.ownsRow_lit w6 _ _ (Nat.le_refl _) (by unfold maxLen; omega) (by simp [size_madeCells])) (by omega)
      · have hb := HB1.out
        rw [← hg] at hb
        have h6 : Below w.heap.size w w6 := grown_below2 hb HG6.out (by omega)
        exact h6.alloc h6.size _
    · have t1 : ((r5 : Int) == 1) = false := by rw [beq_eq_false_iff_ne]; omega
      clear h0 h1 hc5
      go_wp2
      go_ret2
      refine ⟨L4, wd, v4, rfl, own_mono HO5.out (by rw [hg]; exact HS3.out.1), by omega, ?_⟩
      have hb := HB1.out
      rw [← hg] at hb
      exact grown_below2 hb HG5.out (by omega)

end Go.Proofs.Yticndfdicalmcaa
