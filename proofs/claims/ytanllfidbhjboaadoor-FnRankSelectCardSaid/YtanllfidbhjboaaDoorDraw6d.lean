/- The draw of a row of bits. -/
import Derived.Test.YtanllfidbhjboaaDoorDraw3d
namespace Go.Proofs.YtanllfidbhjboaaDoor
open Go.RowKit
set_option maxRecDepth 100000

theorem Tryd.infoInt6 : (Tryd.prog.info? 3).map (fun i => (i.zero, i.size, i.bytes)) = some (some (.int .i64 0), 1, 8) := by kernel_rfl

set_option maxHeartbeats 400000 in
theorem once_any (g : Nat) (A : Option Addr) (c : Nat) (D : List Nat) (K n : Nat) (w : World) (h : Cur w g A c D K) (hn : n ≤ 9223372036854775807) (hK : K ≤ 4611686018427387000) :
    Calls Tryd.prog 30 #[.pointer (some ⟨g, 0, none⟩), .int .i64 n] w fun e w' => ∃ b : Bool, e = .returned (.bool b) ∧ Cur w' g A c D (K + 1) ∧ w.grownBy w' (some g) := by
  go_enter Tryd.func30, Tryd.ntmps30
  go_wp2_with fail
  refine (pick_any g A c D K n w h (by omega) (by omega)).mono ?_
  rintro e w1 ⟨r, rfl, _, _, hc1, hg1⟩
  have HC := Lib.hid hc1
  have HG := Lib.hid hg1
  clear hc1 hg1 h
  go_wp2
  go_ret
  exact ⟨_, rfl, HC.out, HG.out⟩

set_option maxHeartbeats 400000 in
theorem boolInt_any (b : Bool) (w : World) : Calls Tryd.prog 92 #[.bool b] w fun e w' => e = .returned (.int .i64 (if b then 1 else 0)) ∧ w = w' := by
  cases b
  · go_enter Tryd.func92, Tryd.ntmps92
    go_wp2
    go_ret
    exact ⟨rfl, rfl⟩
  · go_enter Tryd.func92, Tryd.ntmps92
    go_wp2
    go_ret
    exact ⟨rfl, rfl⟩

theorem own_turn6 {w w' : World} {b : Nat} {e : TypeId} {size n : Nat} {v : Value} {xs : List Value} (h : w.ownsRow b e size v n xs) (hk : ∀ k, v.ownBlock = some k → w'.heap[k]? = w.heap[k]?) : w'.ownsRow b e size v n xs := by
  obtain ⟨h1, h2⟩ := h
  refine ⟨h1, ?_⟩
  rcases h2 with h2 | ⟨g, cap, cur, hv, hg, hh, r⟩
  · exact .inl h2
  · exact .inr ⟨g, cap, cur, hv, hg, (hk g (by rw [hv]; rfl)).trans hh, r⟩
theorem own_past6 {w w' : World} {b g : Nat} {e : TypeId} {n : Nat} {v : Value} {xs : List Value} (h : w.ownsRow b e 1 v n xs) (hg : w.grownBy w' (some g)) (hb : g < b) : w'.ownsRow b e 1 v n xs :=
  own_turn6 h fun k hk => hg.block k (h.lt k hk).2 fun e => by
    have := (h.lt k hk).1
    have := Option.some.inj e
    omega
theorem grown_two6 {w w1 w2 : World} {g : Nat} {row : Option Nat} (h : w.grownBy w1 (some g)) (k : w1.grownBy w2 row) (hr : ∀ j, row = some j → w.heap.size ≤ j) : w.grownBy w2 (some g) :=
  h.andThen k fun j hj => .inl (hr j hj)
/-- The cursor and the code lie below B. -/
structure CurB (w : World) (g : Nat) (A : Option Addr) (c : Nat) (D : List Nat) (K B : Nat) : Prop where
  cur : Cur w g A c D K
  gB : g < B
  code : ∀ b o, 0 < D.length → A = some ⟨b, o, none⟩ → b < B
theorem CurB.of {w : World} {g : Nat} {A : Option Addr} {c : Nat} {D : List Nat} {K : Nat} (h : Cur w g A c D K) : CurB w g A c D K w.heap.size :=
  ⟨h, h.lt, fun b o hl hA => by
    obtain ⟨b', o', _, hA', hb', _⟩ := h.lies.at_ hl
    rw [hA] at hA'
    injection hA' with hA'
    injection hA' with e1 e2
    omega⟩
theorem CurB.to {w w' : World} {g : Nat} {A : Option Addr} {c : Nat} {D : List Nat} {K K' B : Nat} (h : CurB w g A c D K B) (h' : Cur w' g A c D K') : CurB w' g A c D K' B := ⟨h', h.gB, h.code⟩
/-- A row above B grows: the cursor stays. -/
theorem CurB.grow {w w' : World} {g : Nat} {A : Option Addr} {c : Nat} {D : List Nat} {K B : Nat} {row : Option Nat} (h : CurB w g A c D K B) (hg : w.grownBy w' row) (hr : ∀ j, row = some j → B ≤ j) : CurB w' g A c D K B :=
  h.to (h.cur.turn hg.size fun q hq hcase => hg.block q hq fun e => by
    have h1 := hr q e.symm
    rcases hcase with h2 | ⟨o, hl, hA⟩
    · have := h.gB
      omega
    · have := h.code q o hl hA
      omega)

/-- A slice's length. -/
def lenOf : Value → Nat
  | .slice _ n _ => n
  | _ => 0

/-- A drawn list. -/
def DrewL (w : World) (g : Nat) (A : Option Addr) (c : Nat) (D : List Nat) (K : Nat) (e : Ending) (w' : World) : Prop :=
  ∃ (A' : Option Addr) (c' : Nat) (L : List Int), e = .returned (.slice A' L.length c') ∧ w'.ownsRow w.heap.size 3 1 (.slice A' L.length c') L.length (L.map I) ∧ L.length ≤ 5001 ∧ Cur w' g A c D K ∧ w.grownBy w' (some g)

set_option maxRecDepth 100000 in
set_option maxHeartbeats 1600000 in
theorem row_any (g : Nat) (A : Option Addr) (c : Nat) (D : List Nat) (K : Nat) (w : World) (h : Cur w g A c D K) (hK : K ≤ 4611686018427300000) :
    Calls Tryd.prog 67 #[.pointer (some ⟨g, 0, none⟩)] w (DrewL w g A c D (K + 6000)) := by
  obtain ⟨i0, hi, hz0, hz1, hz2⟩ := info_parts Tryd.infoInt6
  have hgl := h.lt
  have cb := CurB.of h
  generalize hS : w.heap.size = S at *
  clear h
  go_enter Tryd.func67, Tryd.ntmps67
  go_wp2_with fail
  refine (pick_any g A c D K 4 _ (cur_alloc cb.cur _) (by omega) (by omega)).mono ?_
  rintro e w1 ⟨lean, rfl, _, _, hc1, hg1⟩
  have HG1 := Lib.hid ((World.grownBy_alloc w (Obj.cells #[] 3) (some g)).trans hg1)
  have hown1 : w1.ownsRow S 3 1 (.slice (some ⟨S, 0, none⟩) 0 0) 0 [] := by
    have h0 := World.ownsRow_made w (e := 3) (size := 1) #[] 0 (Nat.le_refl _) (by unfold maxLen; omega) rfl
    rw [hS] at h0
    exact own_past6 h0 hg1 hgl
  replace cb := cb.to hc1
  have HO1 := Lib.hid hown1
  clear hown1 hg1 hc1
  go_wp2_with fail
  have hbx := Box.made w1 3 #[Value.int IntKind.i64 5, Value.int IntKind.i64 40, Value.int IntKind.i64 140]
  have hlt1 := cb.cur.lt
  refine (pick_any g A c D (K + 1) 3 _ (cur_alloc cb.cur _) (by omega) (by omega)).mono ?_
  rintro e w2 ⟨q, rfl, hq, _, hc2, hg2⟩
  have hq3 : (q : Int) < 3 := hq (by omega)
  obtain ⟨x, hx, hcell⟩ := table_at (L := [5, 40, 140]) (box_kept hbx hg2 (by omega)) (i := q) (by simp; omega)
  have hx140 : 5 ≤ x ∧ x ≤ 140 := by simp at hx; omega
  have HO2 := Lib.hid (own_past6 (HO1.out.alloc _) hg2 hgl)
  have HG2 := Lib.hid (HG1.out.trans ((World.grownBy_alloc w1 _ (some g)).trans hg2))
  replace cb := cb.to hc2
  clear hq hg2 hc2 hbx hx HO1 HG1
  go_wp2_with fail
  refine (pick_any g A c D (K + 2) x w2 cb.cur (by omega) (by omega)).mono ?_
  rintro e w3 ⟨n, rfl, hn, _, hc3, hg3⟩
  have hn140 : (n : Int) < x := hn (by omega)
  have HO3 := Lib.hid (own_past6 HO2.out hg3 hgl)
  have HG3 := Lib.hid (HG2.out.trans hg3)
  replace cb := cb.to hc3
  have HC3 := Lib.hid cb
  clear hn hg3 hc3 hcell HO2 HG2 cb
  go_wp2
  go_loopw [3, 5] (fun s j wr => ∃ (k : Nat) (L : List Int), k ≤ n ∧ j = .int .i64 k ∧ wr.ownsRow S 3 1 s L.length (L.map I) ∧ L.length + k ≤ 140 ∧ CurB wr g A c D (K + 3 + 2 * (n - k)) S ∧ w.grownBy wr (some g)) (fun _ j _ => (intOf j).toNat)
  case atStart => exact ⟨n, [], Nat.le_refl _, rfl, HO3.out, by simp; omega, by simpa using HC3.out, HG3.out⟩
  case round =>
    obtain ⟨k, L, hkn, rfl, hown, hLk, cb, hgr⟩ := hrel
    clear HO3 HG3 HC3
    have HO := Lib.hid hown
    have HG := Lib.hid hgr
    clear hown hgr
    rcases Nat.eq_zero_or_pos k with h0 | h0
    · subst h0
      go_wp2_with fail
      refine (once_any g A c D _ 60 wr cb.cur (by omega) (by omega)).mono ?_
      rintro e w4 ⟨bb, rfl, hc4, hg4⟩
      replace cb := cb.to hc4
      have HO4 := Lib.hid (own_past6 HO.out hg4 hgl)
      have HG4 := Lib.hid (HG.out.trans hg4)
      have HC4 := Lib.hid cb
      clear hc4 hg4 HO HG cb
      obtain ⟨A4, c4, rfl⟩ := own_slice HO4.out
      cases bb
      · go_wp2
        go_ret
        exact ⟨A4, c4, L, rfl, by rw [hS]; exact HO4.out, by omega, HC4.out.cur.more (by omega), HG4.out⟩
      · go_wp2
        go_loopw [3] (fun s wr => ∃ (A' : Option Addr) (c' : Nat) (L : List Int), s = .slice A' L.length c' ∧ wr.ownsRow S 3 1 (.slice A' L.length c') L.length (L.map I) ∧ L.length ≤ 5001 ∧ CurB wr g A c D (K + 500 + L.length) S ∧ w.grownBy wr (some g)) (fun s _ => 5002 - lenOf s)
        case atStart => exact ⟨A4, c4, L, rfl, HO4.out, by omega, HC4.out.to (HC4.out.cur.more (by omega)), HG4.out⟩
        case round =>
          obtain ⟨A', c', L, rfl, hown, hLk, cb, hgr⟩ := hrel
          have HO := Lib.hid hown
          have HG := Lib.hid hgr
          clear hown hgr HO4 HC4 HG4
          go_wp2_with fail
          refine (pick_any g A c D _ 2 wr cb.cur (by omega) (by omega)).mono ?_
          rintro e w5 ⟨t, rfl, ht, _, hc5, hg5⟩
          have ht2 : (t : Int) < 2 := ht (by omega)
          replace cb := cb.to hc5
          have HO5 := Lib.hid (own_past6 HO.out hg5 hgl)
          have HG5 := Lib.hid (HG.out.trans hg5)
          clear hc5 hg5 HO HG ht
          by_cases hlt : L.length < 5000 + t
          · have t2 : decide ((L.length : Int) < 5000 + (t : Int)) = true := by simp; omega
            have t2n : decide (L.length < 5000 + t) = true := by simp; omega
            obtain ⟨y, hy⟩ : ∃ y, L.length % 3 / 2 = y := ⟨_, rfl⟩
            have hyi : (L.length : Int) % 3 / 2 = (y : Int) := by omega
            clear hy
            go_wp2_with (at_builtin; refine wpList_append_own _ rfl _ _ 31 rfl S 3 i0 (.int .i64 0) 1 8 Tryd.underlying31 hi hz0 hz1 hz2 rfl (by decide) _ _ _ rfl (HO5.out.alloc _) ⟨w5.heap.size, 0, none⟩ 1 1 [.int .i64 (y : Int)] rfl rfl (cell_one_new _ _ _) (ints_oneCell .i64 [_]) (by unfold maxLen; omega) (by omega) (by have := HG5.out.size; simp; omega) ?_)
            intro v' w6 hown' hgrow _
            have HG6 : Hid (w5.grownBy w6 _) := Lib.hid ((World.grownBy_alloc w5 _ _).trans hgrow)
            have HC := Lib.hid (cb.grow HG6.out fun j hj => (HO5.out.lt j hj).1)
            have e1 : L.map I ++ [Value.int IntKind.i64 (y : Int)] = (L ++ [(y : Int)]).map I := by simp
            rw [e1] at hown'
            have e2 : L.length + 1 = (L ++ [(y : Int)]).length := by simp
            rw [e2] at hown'
            obtain ⟨A6, c6, rfl⟩ := own_slice hown'
            have HO6 := Lib.hid hown'
            clear hown' hgrow cb e1 e2
            go_wp2
            go_roundw
            case rel =>
              exact ⟨A6, c6, L ++ [(y : Int)], by simp, HO6.out, by simp; omega, HC.out.to (HC.out.cur.more (by simp; omega)), grown_two6 HG5.out HG6.out fun j hj => by rw [hS]; exact (HO5.out.lt j hj).1⟩
            case measure => simp [lenOf]; omega
          · have t2 : decide ((L.length : Int) < 5000 + (t : Int)) = false := by simp; omega
            have t2n : decide (L.length < 5000 + t) = false := by simp; omega
            have HC5 := Lib.hid cb
            clear cb
            go_wp2
            go_ret
            exact ⟨A', c', L, rfl, by rw [hS]; exact HO5.out, by omega, HC5.out.cur.more (by omega), HG5.out⟩
    · obtain ⟨k, rfl⟩ : ∃ k', k = k' + 1 := ⟨k - 1, by omega⟩
      go_wp2_with fail
      refine (pick_any g A c D _ 2 wr cb.cur (by omega) (by omega)).mono ?_
      rintro e w4 ⟨b, rfl, _, _, hc4, hg4⟩
      replace cb := cb.to hc4
      have HO4 := Lib.hid (own_past6 HO.out hg4 hgl)
      have HG4 := Lib.hid (HG.out.trans hg4)
      clear hc4 hg4 HO HG
      by_cases hle : lean = 0
      · have t1 : ((lean : Int) == 0) = true := by rw [beq_iff_eq]; omega
        clear hle
        go_wp2_with fail
        refine (once_any g A c D _ 9 w4 cb.cur (by omega) (by omega)).mono ?_
        rintro e w5 ⟨bb, rfl, hc5, hg5⟩
        replace cb := cb.to hc5
        have HO5 := Lib.hid (own_past6 HO4.out hg5 hgl)
        have HG5 := Lib.hid (HG4.out.trans hg5)
        clear hc5 hg5 HO4 HG4
        go_wp2_with fail
        refine (boolInt_any bb w5).mono ?_
        rintro e w5' ⟨rfl, rfl⟩
        generalize (if bb = true then (1 : Int) else 0) = y at *
        go_wp2_with (at_builtin; refine wpList_append_own _ rfl _ _ 31 rfl S 3 i0 (.int .i64 0) 1 8 Tryd.underlying31 hi hz0 hz1 hz2 rfl (by decide) _ _ _ rfl (HO5.out.alloc _) ⟨w5.heap.size, 0, none⟩ 1 1 [.int .i64 y] rfl rfl (cell_one_new _ _ _) (ints_oneCell .i64 [_]) (by unfold maxLen; omega) (by omega) (by have := HG5.out.size; simp; omega) ?_)
        intro v' w6 hown' hgrow _
        have HO6 := Lib.hid hown'
        have HG6 : Hid (w5.grownBy w6 _) := Lib.hid ((World.grownBy_alloc w5 _ _).trans hgrow)
        have HC := Lib.hid (cb.grow HG6.out fun j hj => (HO5.out.lt j hj).1)
        clear hown' hgrow cb
        go_wp2
        go_roundw
        case rel =>
          refine ⟨k, L ++ [y], by omega, by go_num, ?_, by simp; omega, ?_, ?_⟩
          · rw [List.length_append, List.map_append]
            exact HO6.out
          · exact HC.out.to (HC.out.cur.more (by omega))
          · exact grown_two6 HG5.out HG6.out fun j hj => by rw [hS]; exact (HO5.out.lt j hj).1
        case measure => simp [intOf]
      · have t1 : ((lean : Int) == 0) = false := by rw [beq_eq_false_iff_ne]; omega
        clear hle
        go_wp2_with (at_builtin; refine wpList_append_own _ rfl _ _ 31 rfl S 3 i0 (.int .i64 0) 1 8 Tryd.underlying31 hi hz0 hz1 hz2 rfl (by decide) _ _ _ rfl (HO4.out.alloc _) ⟨w4.heap.size, 0, none⟩ 1 1 [.int .i64 (b : Int)] rfl rfl (cell_one_new _ _ _) (ints_oneCell .i64 [_]) (by unfold maxLen; omega) (by omega) (by have := HG4.out.size; simp; omega) ?_)
        intro v' w6 hown' hgrow _
        have HO6 := Lib.hid hown'
        have HG6 : Hid (w4.grownBy w6 _) := Lib.hid ((World.grownBy_alloc w4 _ _).trans hgrow)
        have HC := Lib.hid (cb.grow HG6.out fun j hj => (HO4.out.lt j hj).1)
        clear hown' hgrow cb
        go_wp2
        go_roundw
        case rel =>
          refine ⟨k, L ++ [(b : Int)], by omega, by go_num, ?_, by simp; omega, ?_, ?_⟩
          · rw [List.length_append, List.map_append]
            exact HO6.out
          · exact HC.out.to (HC.out.cur.more (by omega))
          · exact grown_two6 HG4.out HG6.out fun j hj => by rw [hS]; exact (HO4.out.lt j hj).1
        case measure => simp [intOf]

end Go.Proofs.YtanllfidbhjboaaDoor
