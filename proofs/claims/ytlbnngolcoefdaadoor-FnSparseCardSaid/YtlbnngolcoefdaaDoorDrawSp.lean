import Derived.Test.YtlbnngolcoefdaaDoorDraw3d
import Derived.Test.YtlbnngolcoefdaaDoorMem3
import Derived.Test.YtlbnngolcoefdaaDoorLaws5
/- The specification's wide draw. -/
namespace Go.Proofs.YtlbnngolcoefdaaDoor
open Go.RowKit
set_option maxRecDepth 100000

/-- A number below n was drawn, by at most three picks. -/
def DrewW (w : World) (g : Nat) (A : Option Addr) (c : Nat) (D : List Nat) (K n : Nat) (e : Ending) (w' : World) : Prop :=
  ∃ r : Nat, e = .returned (.int .i64 r) ∧ r < n ∧ r < 16777216 ∧ Cur w' g A c D K ∧ w.grownBy w' (some g)

set_option maxHeartbeats 800000 in
theorem wide_any (g : Nat) (A : Option Addr) (c : Nat) (D : List Nat) (K n : Nat) (w : World) (h : Cur w g A c D K) (hn : 1 ≤ n) (hn2 : n ≤ 9223372036854775807) (hK : K ≤ 4611686018427387000) :
    Calls Tryd.prog 88 #[.pointer (some ⟨g, 0, none⟩), .int .i64 n] w (DrewW w g A c D (K + 3) n) := by
  go_enter Tryd.func88, Tryd.ntmps88
  go_wp2_with fail
  refine (pick_any g A c D K 256 w h (by omega) (by omega)).mono ?_
  rintro e w1 ⟨r1, rfl, hr1, _, hc1, hg1⟩
  have hq1 : (r1 : Int) < 256 := hr1 (by omega)
  have HG1 := Lib.hid hg1
  clear hr1 hg1 h
  go_wp2_with fail
  refine (pick_any g A c D (K + 1) 256 w1 hc1 (by omega) (by omega)).mono ?_
  rintro e w2 ⟨r2, rfl, hr2, _, hc2, hg2⟩
  have hq2 : (r2 : Int) < 256 := hr2 (by omega)
  have HG2 := Lib.hid hg2
  clear hr2 hg2 hc1
  go_wp2_with fail
  refine (pick_any g A c D (K + 2) 256 w2 hc2 (by omega) (by omega)).mono ?_
  rintro e w3 ⟨r3, rfl, hr3, _, hc3, hg3⟩
  have hq3 : (r3 : Int) < 256 := hr3 (by omega)
  have HG3 := Lib.hid hg3
  have HC := Lib.hid hc3
  clear hr3 hg3 hc2 hc3
  obtain ⟨y, hy⟩ : ∃ y, 65536 * r1 + 256 * r2 + r3 = y := ⟨_, rfl⟩
  have hyi : 65536 * (r1 : Int) + 256 * (r2 : Int) + (r3 : Int) = (y : Int) := by omega
  have hn0 : ((n : Int) == 0) = false := by rw [beq_eq_false_iff_ne]; omega
  have hrem : (y : Int).tmod (n : Int) = ((y % n : Nat) : Int) := by
    rw [Int.tmod_eq_emod_of_nonneg (by omega)]
    simp
  have hy24 : y < 16777216 := by omega
  clear hy
  go_wp2
  go_ret
  refine ⟨y % n, ret_int (by simp), Nat.mod_lt _ (by omega), Nat.lt_of_le_of_lt (Nat.mod_le _ _) hy24, HC.out, (HG1.out.trans HG2.out).trans HG3.out⟩

end Go.Proofs.YtlbnngolcoefdaaDoor

/- How long a drawn list is. -/
namespace Go.Proofs.YtlbnngolcoefdaaDoor
open Go.RowKit
set_option maxRecDepth 100000

set_option maxHeartbeats 1600000 in
theorem size20_any (g : Nat) (A : Option Addr) (c : Nat) (D : List Nat) (K : Nat) (w : World) (h : Cur w g A c D K) (hK : K ≤ 4611686018427387000) :
    Calls Tryd.prog 87 #[.pointer (some ⟨g, 0, none⟩), .int .i64 20] w fun e w' => ∃ r : Nat, e = .returned (.int .i64 r) ∧ r ≤ 20 ∧ Cur w' g A c D (K + 1) ∧ w.grownBy w' (some g) := by
  obtain ⟨a, s, _, _, hbox⟩ := h.box
  have f0 := hbox.cell 0
  simp only [List.getElem?_toArray, List.getElem?_cons_zero, List.getElem?_cons_succ] at f0
  obtain ⟨n, hni, hn20, hn1⟩ : ∃ n : Nat, (if 1 + (D.length : Int) / 8 < 20 then 1 + (D.length : Int) / 8 else 20) = (n : Int) ∧ n ≤ 20 ∧ 1 ≤ n := by
    by_cases h8 : 1 + D.length / 8 < 20
    · exact ⟨1 + D.length / 8, by rw [if_pos (by omega)]; omega, by omega, by omega⟩
    · exact ⟨20, by rw [if_neg (by omega)]; rfl, by omega, by omega⟩
  have hlen := h.len
  clear hbox
  go_enter Tryd.func87, Tryd.ntmps87
  go_wp2_with fail
  refine (pick_any g A c D K ((n : Int) + 1) w h (by omega) (by omega)).mono ?_
  rintro e w1 ⟨r, rfl, hr, _, hc1, hg1⟩
  have hr2 : (r : Int) < (n : Int) + 1 := hr (by omega)
  have HC := Lib.hid hc1
  have HG := Lib.hid hg1
  clear hr hc1 hg1 h f0
  go_wp2
  go_ret
  exact ⟨r, rfl, by omega, HC.out, HG.out⟩

end Go.Proofs.YtlbnngolcoefdaaDoor

/- The draws of a rising list and of what SparseOf is given (weak contracts). -/
namespace Go.Proofs.YtlbnngolcoefdaaDoor
open Go.RowKit
set_option maxRecDepth 100000

theorem own_turnS {w w' : World} {b : Nat} {e : TypeId} {size n : Nat} {v : Value} {xs : List Value} (h : w.ownsRow b e size v n xs) (hk : ∀ k, v.ownBlock = some k → w'.heap[k]? = w.heap[k]?) : w'.ownsRow b e size v n xs := by
  obtain ⟨h1, h2⟩ := h
  refine ⟨h1, ?_⟩
  rcases h2 with h2 | ⟨g, cap, cur, hv, hg, hh, r⟩
  · exact .inl h2
  · exact .inr ⟨g, cap, cur, hv, hg, (hk g (by rw [hv]; rfl)).trans hh, r⟩
theorem own_pastS {w w' : World} {b g : Nat} {e : TypeId} {n : Nat} {v : Value} {xs : List Value} (h : w.ownsRow b e 1 v n xs) (hg : w.grownBy w' (some g)) (hb : g < b) : w'.ownsRow b e 1 v n xs :=
  own_turnS h fun k hk => hg.block k (h.lt k hk).2 fun e => by
    have := (h.lt k hk).1
    have := Option.some.inj e
    omega
theorem grown_twoS {w w1 w2 : World} {g : Nat} {row : Option Nat} (h : w.grownBy w1 (some g)) (k : w1.grownBy w2 row) (hr : ∀ j, row = some j → w.heap.size ≤ j) : w.grownBy w2 (some g) :=
  h.andThen k fun j hj => .inl (hr j hj)
/-- The cursor stays where memory above the start is written. -/
theorem Cur.pastS {w0 w w' : World} {g : Nat} {A : Option Addr} {c : Nat} {D : List Nat} {K : Nat} {row : Option Nat} (h : Cur w g A c D K) (hD0 : Lies w0 B8 A D) (hgl : g < w0.heap.size) (hg : w.grownBy w' row) (hr : ∀ j, row = some j → w0.heap.size ≤ j) : Cur w' g A c D K := by
  refine h.turn hg.size fun q hq hcase => hg.block q hq fun e => ?_
  have h1 := hr q e.symm
  rcases hcase with h2 | ⟨o, hl, hA⟩
  · omega
  · obtain ⟨b, o', _, hA', hb', _⟩ := hD0.at_ hl
    rw [hA] at hA'
    injection hA' with hA'
    injection hA' with e1 e2
    omega

/-- A rising list was drawn. -/
def DrewR (w : World) (g : Nat) (A : Option Addr) (c : Nat) (D : List Nat) (K : Nat) (e : Ending) (w' : World) : Prop :=
  ∃ (v : Value) (L : List Int) (u : Nat), e = .returned (.tuple #[v, .int .i64 (u : Int)]) ∧ w'.ownsRow w.heap.size 3 1 v L.length (L.map I) ∧ L.length ≤ 20 ∧ u ≤ 100000 ∧ Cur w' g A c D K ∧ w.grownBy w' (some g)

set_option maxHeartbeats 1600000 in
theorem rising_any (g : Nat) (A : Option Addr) (c : Nat) (D : List Nat) (K : Nat) (w : World) (h : Cur w g A c D K) (hK : K ≤ 4611686018427300000) :
    Calls Tryd.prog 47 #[.pointer (some ⟨g, 0, none⟩)] w (DrewR w g A c D (K + 64)) := by
  obtain ⟨i0, hi, hz0, hz1, hz2⟩ := info_parts Tryd.infoInt
  have hgl := h.lt
  have HD0 := Lib.hid h.lies
  go_enter Tryd.func47, Tryd.ntmps47
  go_wp2_with fail
  refine (pick_any g A c D K 4 _ (cur_alloc h _) (by omega) (by omega)).mono ?_
  rintro e w1 ⟨x0, rfl, hx0, _, hc1, hg1⟩
  have hx4 : (x0 : Int) < 4 := hx0 (by omega)
  have hown0 : w1.ownsRow w.heap.size 3 1 (.slice (some ⟨w.heap.size, 0, none⟩) 0 0) 0 [] :=
    own_pastS (World.ownsRow_made w (e := 3) (size := 1) #[] 0 (Nat.le_refl _) (by unfold maxLen; omega) rfl) hg1 hgl
  have HG1 := Lib.hid ((World.grownBy_alloc w (Obj.cells #[] 3) (some g)).trans hg1)
  have hs1 := HG1.out.size
  clear hg1 h hx0
  go_wp2_with fail
  have hbx := Box.made w1 3 #[.int .i64 1, .int .i64 3, .int .i64 40, .int .i64 3000]
  have hown1 := hown0.alloc (Obj.cells #[.int .i64 1, .int .i64 3, .int .i64 40, .int .i64 3000] 3)
  have hg11 := HG1.out.trans (World.grownBy_alloc w1 (Obj.cells #[.int .i64 1, .int .i64 3, .int .i64 40, .int .i64 3000] 3) (some g))
  refine (pick_any g A c D (K + 1) 4 _ (cur_alloc hc1 _) (by omega) (by omega)).mono ?_
  rintro e w2 ⟨q, rfl, hq, _, hc2, hg2⟩
  have hq4 : (q : Int) < 4 := hq (by omega)
  have hb2 := box_kept hbx hg2 (by omega)
  obtain ⟨v, hv, hcell⟩ := table_at (L := [1, 3, 40, 3000]) hb2 (i := q) (by simp; omega)
  have hvb : 0 ≤ v ∧ v ≤ 3000 := by
    simp at hv
    omega
  obtain ⟨st, rfl⟩ := Int.eq_ofNat_of_zero_le hvb.1
  have hst : st ≤ 3000 := by omega
  have HO2 : Hid (w2.ownsRow w.heap.size 3 1 (.slice (some ⟨w.heap.size, 0, none⟩) 0 0) 0 []) := Lib.hid (own_pastS hown1 hg2 hgl)
  have HG2 := Lib.hid (hg11.trans hg2)
  have hs2 := HG2.out.size
  have HC2 := Lib.hid hc2
  clear hq hg2 hg11 hown0 hown1 hbx hb2 hv hvb hc1 hc2
  go_wp2_with fail
  refine (size20_any g A c D (K + 2) w2 HC2.out (by omega)).mono ?_
  rintro e w3 ⟨r, rfl, hr20, hc3, hg3⟩
  have HO3 : Hid (w3.ownsRow w.heap.size 3 1 (.slice (some ⟨w.heap.size, 0, none⟩) 0 0) 0 []) := Lib.hid (own_pastS HO2.out hg3 hgl)
  have HG3 := Lib.hid (HG2.out.trans hg3)
  have HC3 := Lib.hid hc3
  clear hg3 hc3 HO2 HG2 HC2 hcell
  go_wp2
  go_loopw [4, 5, 7] (fun s x j wr => ∃ (k y : Nat) (L : List Int), k ≤ r ∧ x = .int .i64 y ∧ y ≤ 4 + 3001 * (20 - k) ∧ j = .int .i64 k ∧ wr.ownsRow w.heap.size 3 1 s L.length (L.map I) ∧ L.length + k ≤ 20 ∧ Cur wr g A c D (K + 3 + 3 * (20 - k)) ∧ w.grownBy wr (some g)) (fun _ _ j _ => (intOf j).toNat)
  case atStart => exact ⟨r, x0, [], Nat.le_refl _, rfl, by omega, rfl, HO3.out, by simpa using hr20, HC3.out.more (by omega), HG3.out⟩
  case round =>
    obtain ⟨k, y, L, hkr, rfl, hy, rfl, hown, hLk, hcur, hgr⟩ := hrel
    have HO := Lib.hid hown
    have HG := Lib.hid hgr
    clear hown hgr
    rcases Nat.eq_zero_or_pos k with h0 | h0
    · subst h0
      go_wp2_with fail
      refine (pick_any g A c D (K + 3 + 3 * (20 - 0)) 9 wr hcur (by omega) (by omega)).mono ?_
      rintro e w4 ⟨z, rfl, hz, _, hc4, hg4⟩
      have hz9 : (z : Int) < 9 := hz (by omega)
      have hy9 : y ≤ 60024 := by omega
      obtain ⟨u, hu⟩ : ∃ u, y + 1 + z = u := ⟨_, rfl⟩
      have ez : (y : Int) + 1 + (z : Int) = (u : Int) := by omega
      have hu9 : u ≤ 60034 := by omega
      have HC4 := Lib.hid hc4
      have HO4 := Lib.hid (own_pastS HO.out hg4 hgl)
      have HG4 := Lib.hid (HG.out.trans hg4)
      clear hg4 hc4 hz hu hcur hy HO HG HC3 HG3 HO3 HG1
      go_wp2
      go_ret2
      exact ⟨_, L, u, rfl, HO4.out, by omega, by omega, HC4.out.more (by omega), HG4.out⟩
    · obtain ⟨k, rfl⟩ : ∃ k', k = k' + 1 := ⟨k - 1, by omega⟩
      have hge : ∀ j, Value.ownBlock _ = some j → w.heap.size ≤ j := fun j hj => (HO.out.lt j hj).1
      have HGe := Lib.hid hge
      clear hge
      go_wp2_with (at_builtin; refine wpList_append_own _ rfl _ _ 24 rfl w.heap.size 3 i0 (.int .i64 0) 1 8 Tryd.underlying24 hi hz0 hz1 hz2 rfl (by decide) _ _ _ rfl (HO.out.alloc _) ⟨wr.heap.size, 0, none⟩ 1 1 [.int .i64 (y : Int)] rfl rfl (cell_one_new _ _ _) (ints_oneCell .i64 [_]) (by unfold maxLen; omega) (by omega) (by have := HG.out.size; simp; omega) ?_)
      intro v' w4 hown' hgrow _
      have HO4 := Lib.hid hown'
      have hg4 := (World.grownBy_alloc wr _ _).trans hgrow
      have HC4 := Lib.hid (hcur.pastS HD0.out hgl hg4 HGe.out)
      have HG4 := Lib.hid (grown_twoS HG.out hg4 HGe.out)
      clear hown' hgrow hg4 hcur HG HO HGe
      obtain ⟨n1, hn1⟩ : ∃ n1, st + 1 = n1 := ⟨_, rfl⟩
      have en1 : (st : Int) + 1 = (n1 : Int) := by omega
      have hn1b : n1 ≤ 3001 := by omega
      go_wp2_with fail
      refine (wide_any g A c D (K + 3 + 3 * (20 - (k + 1))) n1 w4 HC4.out (by omega) (by omega) (by omega)).mono ?_
      rintro e w5 ⟨z, rfl, hz, _, hc5, hg5⟩
      have HO5 := Lib.hid (own_pastS HO4.out hg5 hgl)
      have HC5 := Lib.hid hc5
      have HG5 := Lib.hid (HG4.out.trans hg5)
      clear hc5 hg5 HC4 HG4 HO4 hn1 en1
      go_wp2
      go_roundw
      case rel =>
        refine ⟨k, y + z, L ++ [(y : Int)], by omega, by go_num, by omega, by go_num, ?_, by simp; omega, HC5.out.more (by omega), HG5.out⟩
        rw [List.length_append, List.map_append]
        exact HO5.out
      case measure => simp [intOf]

set_option maxHeartbeats 1600000 in
theorem drawSparseOf_any (A : Option Addr) (c : Nat) (D : List Nat) (w : World) (hD : Lies w B8 A D) (hw : ∀ x ∈ D, x < 2 ^ 8) (hl : D.length ≤ 1048576) :
    Calls Tryd.prog 11 #[.slice A D.length c] w fun e w' => ∃ (v : Value) (L : List Int) (u : Int), e = .returned (.tuple #[v, .int .i64 u]) ∧ w'.ownsRow w.heap.size 3 1 v L.length (L.map I) ∧ L.length ≤ 21 ∧ u ≤ 9223372036854775807 ∧ Below w.heap.size w w' := by
  obtain ⟨i0, hi, hz0, hz1, hz2⟩ := info_parts Tryd.infoInt
  have HD := Lib.hid hD
  have HW := Lib.hid hw
  clear hD hw
  go_enter Tryd.func11, Tryd.ntmps11
  go_wp2_with fail
  refine (open_any A c D w HD.out HW.out hl).mono ?_
  rintro e w1 ⟨rfl, hc1, hb1⟩
  have hgl := hc1.lt
  have HD1 := Lib.hid hc1.lies
  generalize hg : w.heap.size = g at *
  go_wp2_with fail
  refine (rising_any g A c D 0 w1 hc1 (by omega)).mono ?_
  rintro e w2 ⟨v2, L2, u2, rfl, ho2, hl2, hu2, hc2, hg2⟩
  obtain ⟨B2, d2, rfl⟩ := own_slice ho2
  have HB1 := Lib.hid hb1
  have HO2 := Lib.hid ho2
  have HG2 := Lib.hid hg2
  clear hb1 ho2 hg2 hc1
  go_wp2_with fail
  refine (pick_any g A c D 64 9 w2 (hc2.more (by omega)) (by omega) (by omega)).mono ?_
  rintro e w3 ⟨r3, rfl, hr3, _, hc3, hg3⟩
  have hr9 : (r3 : Int) < 9 := hr3 (by omega)
  have HO3 := Lib.hid (own_pastS HO2.out hg3 hgl)
  have HG3 := Lib.hid (HG2.out.trans hg3)
  clear hg3 hc2 hr3 HO2 HG2
  have HEnd : Hid (∀ W, w1.grownBy W (some g) → Below w.heap.size w W) := Lib.hid fun W h => by
    have h1 := HB1.out
    rw [← hg] at h1
    exact grown_below2 h1 h (by omega)
  by_cases h0 : r3 = 0
  · have t0 : ((r3 : Int) == 0) = true := by rw [beq_iff_eq]; omega
    clear h0
    go_wp2_with fail
    refine (raw_any g A c D (64 + 1) w3 hc3 (by omega)).mono ?_
    rintro e w5 ⟨x5, rfl, hx5, hc5, hg5⟩
    have hs5 := hc5.lt
    go_wp2_with fail
    have hbx := Box.made w5 3 #[.int .i64 x5, .int .i64 1000000, .int .i64 1000001]
    have HO6 := Lib.hid ((own_pastS HO3.out hg5 hgl).alloc (Obj.cells #[.int .i64 x5, .int .i64 1000000, .int .i64 1000001] 3))
    have hg6 := (HG3.out.trans hg5).trans (World.grownBy_alloc w5 (Obj.cells #[.int .i64 x5, .int .i64 1000000, .int .i64 1000001] 3) (some g))
    refine (pick_any g A c D (64 + 1 + 2) 3 _ (cur_alloc hc5 _) (by omega) (by omega)).mono ?_
    rintro e w7 ⟨q7, rfl, hq7, _, hc7, hg7⟩
    have hq3 : (q7 : Int) < 3 := hq7 (by omega)
    have hb7 := box_kept hbx hg7 (by omega)
    obtain ⟨v7, hv7, hcell⟩ := table_at (L := [x5, 1000000, 1000001]) hb7 (i := q7) (by simp; omega)
    have hvb : v7 ≤ 9223372036854775807 := by
      simp at hv7
      omega
    have HO7 := Lib.hid (own_pastS HO6.out hg7 hgl)
    have HG7 := Lib.hid (hg6.trans hg7)
    clear hc5 hg5 hbx HO6 hg6 hc7 hg7 hb7 hv7 hq7 HO3 HG3 hc3 hx5
    go_wp2
    go_ret2
    exact ⟨_, L2, v7, rfl, own_mono HO7.out (by omega), by omega, hvb, HEnd.out _ HG7.out⟩
  · have t0 : ((r3 : Int) == 0) = false := by rw [beq_eq_false_iff_ne]; omega
    by_cases h1 : r3 = 1
    · have t1 : ((r3 : Int) == 1) = true := by rw [beq_iff_eq]; omega
      clear h0 h1
      go_wp2_with fail
      refine (raw_any g A c D (64 + 1) w3 hc3 (by omega)).mono ?_
      rintro e w5 ⟨x5, rfl, hx5, hc5, hg5⟩
      have HO5 := Lib.hid (own_pastS HO3.out hg5 hgl)
      have HG5 := Lib.hid (HG3.out.trans hg5)
      have hs5 := HG5.out.size
      clear hc3 hg5 HO3 HG3
      go_wp2_with (at_builtin; refine wpList_append_own _ rfl _ _ 24 rfl w1.heap.size 3 i0 (.int .i64 0) 1 8 Tryd.underlying24 hi hz0 hz1 hz2 rfl (by decide) _ _ _ rfl (HO5.out.alloc _) ⟨w5.heap.size, 0, none⟩ 1 1 [.int .i64 x5] rfl rfl (cell_one_new _ _ _) (ints_oneCell .i64 [_]) (by unfold maxLen; omega) (by omega) (by simp; omega) ?_)
      intro v' w6 hown' hgrow _
      have HO6 := Lib.hid hown'
      have hg6 := (World.grownBy_alloc w5 _ _).trans hgrow
      have HG6 := Lib.hid (grown_twoS HG5.out hg6 fun j hj => (HO5.out.lt j hj).1)
      clear hown' hgrow hg6
      go_wp2
      go_ret2
      refine ⟨_, L2 ++ [x5], (u2 : Int), rfl, ?_, by simp; omega, by omega, HEnd.out _ HG6.out⟩
      rw [List.length_append, List.map_append]
      exact own_mono HO6.out (by omega)
    · have t1 : ((r3 : Int) == 1) = false := by rw [beq_eq_false_iff_ne]; omega
      clear h0 h1
      go_wp2
      go_ret2
      exact ⟨_, L2, (u2 : Int), rfl, own_mono HO3.out (by omega), by omega, by omega, HEnd.out _ HG3.out⟩

end Go.Proofs.YtlbnngolcoefdaaDoor
