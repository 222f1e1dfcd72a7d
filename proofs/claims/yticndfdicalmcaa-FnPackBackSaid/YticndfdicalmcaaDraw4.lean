/- The draw of PackOf. -/
import Derived.Test.YticndfdicalmcaaDraw3
import Derived.Test.YticndfdicalmcaaPk8
namespace Go.Proofs.Yticndfdicalmcaa
open Go.RowKit

set_option maxHeartbeats 400000 in
theorem size_any (g : Nat) (A : Option Addr) (c : Nat) (D : List Nat) (K : Nat) (w : World) (h : Cur w g A c D K) (hK : K ≤ 4611686018427387000) :
    Calls Try.prog 91 #[.pointer (some ⟨g, 0, none⟩), .int .i64 20] w fun e w' => ∃ r : Nat, e = .returned (.int .i64 r) ∧ r ≤ 20 ∧ Cur w' g A c D (K + 1) ∧ w.grownBy w' (some g) := by
  obtain ⟨a, s, _, _, hbox⟩ := h.box
  have f0 := hbox.cell 0
  simp only [List.getElem?_toArray, List.getElem?_cons_zero, List.getElem?_cons_succ] at f0
  obtain ⟨n, hn⟩ : ∃ n, min 20 (1 + D.length / 8) = n := ⟨_, rfl⟩
  have hni : (if 1 + (D.length : Int) / 8 < 20 then 1 + (D.length : Int) / 8 else 20) = (n : Int) := by split <;> omega
  have hn20 : n ≤ 20 := by omega
  have hn1 : 1 ≤ n := by omega
  have hlen := h.len
  clear hbox hn
  go_enter Try.func91, Try.ntmps91
  go_wp2_with fail
  refine (pick_any g A c D K ((n : Int) + 1) w h (by omega) (by omega)).mono ?_
  rintro e w1 ⟨r, rfl, hr, _, hc1, hg1⟩
  have hr2 : (r : Int) < (n : Int) + 1 := hr (by omega)
  have HC := Lib.hid hc1
  have HG := Lib.hid hg1
  clear hr hc1 hg1 h f0
  go_wp2
  go_ret
  exact ⟨r, rfl, by omega, HC.out, HG.out⟩

theorem own_turn2 {w w' : World} {b : Nat} {e : TypeId} {size n : Nat} {v : Value} {xs : List Value} (h : w.ownsRow b e size v n xs) (hk : ∀ k, v.ownBlock = some k → w'.heap[k]? = w.heap[k]?) : w'.ownsRow b e size v n xs := by
  obtain ⟨h1, h2⟩ := h
  refine ⟨h1, ?_⟩
  rcases h2 with h2 | ⟨g, cap, cur, hv, hg, hh, r⟩
  · exact .inl h2
  · exact .inr ⟨g, cap, cur, hv, hg, (hk g (by rw [hv]; rfl)).trans hh, r⟩
theorem grown_two {w w1 w2 : World} {g : Nat} {row : Option Nat} (h : w.grownBy w1 (some g)) (k : w1.grownBy w2 row) (hr : ∀ j, row = some j → w.heap.size ≤ j) : w.grownBy w2 (some g) :=
  h.andThen k fun j hj => .inl (hr j hj)

set_option maxRecDepth 100000 in
set_option maxHeartbeats 800000 in
theorem numbers_any (g : Nat) (A : Option Addr) (c : Nat) (D : List Nat) (K top : Nat) (w : World) (h : Cur w g A c D K) (hK : K ≤ 4611686018427380000) (ht : 1 ≤ top) (ht2 : top ≤ 9223372036854775807) :
    Calls Try.prog 73 #[.pointer (some ⟨g, 0, none⟩), .int .i64 20, .int .i64 top] w fun e w' => ∃ (v : Value) (L : List Int), e = .returned v ∧ w'.ownsRow w.heap.size 3 1 v L.length (L.map I) ∧ L.length ≤ 20 ∧ Cur w' g A c D (K + 61) ∧ w.grownBy w' (some g) := by
  obtain ⟨i0, hi, hz0, hz1, hz2⟩ := info_parts Try.infoInt
  have hgl := h.lt
  have HD0 := Lib.hid h.lies
  have hmx : (if (1 : Int) < (top : Int) then (top : Int) else 1) = (top : Int) := by split <;> omega
  have hmx2 : (if 1 < top then (top : Int) else 1) = (top : Int) := by split <;> omega
  go_enter Try.func73, Try.ntmps73
  go_wp2_with fail
  refine (size_any g A c D K _ (cur_alloc h _) (by omega)).mono ?_
  rintro e w1 ⟨r, rfl, hr20, hc1, hg1⟩
  have HG1 := Lib.hid ((World.grownBy_alloc w (Obj.cells #[] 3) (some g)).trans hg1)
  have hown0 : w1.ownsRow w.heap.size 3 1 (.slice (some ⟨w.heap.size, 0, none⟩) 0 0) 0 [] := by
    have h0 := World.ownsRow_made w (e := 3) (size := 1) #[] 0 (Nat.le_refl _) (by unfold maxLen; omega) rfl
    exact own_turn2 h0 fun k hk => hg1.block k (h0.lt k hk).2 fun e => by
      have := (h0.lt k hk).1
      have := Option.some.inj e
      omega
  have HO0 := Lib.hid hown0
  have HC1 := Lib.hid hc1
  clear hown0 hg1 hc1 h
  go_wp2
  go_loopw [7, 8] (fun s j wr => ∃ (k : Nat) (L : List Int), k ≤ r ∧ j = .int .i64 k ∧ wr.ownsRow w.heap.size 3 1 s L.length (L.map I) ∧ L.length + k ≤ 20 ∧ Cur wr g A c D (K + 1 + 3 * (20 - k)) ∧ w.grownBy wr (some g)) (fun _ j _ => (intOf j).toNat)
  case atStart => exact ⟨r, [], Nat.le_refl _, rfl, HO0.out, by simpa using hr20, HC1.out.more (by omega), HG1.out⟩
  case round =>
    obtain ⟨k, L, hkr, rfl, hown, hLk, hcur, hgr⟩ := hrel
    rcases Nat.eq_zero_or_pos k with h0 | h0
    · subst h0
      go_wp2
      go_ret
      exact ⟨_, L, rfl, hown, by omega, hcur.more (by omega), hgr⟩
    · obtain ⟨k, rfl⟩ : ∃ k', k = k' + 1 := ⟨k - 1, by omega⟩
      have HO := Lib.hid hown
      have HG := Lib.hid hgr
      clear hown hgr
      go_wp2_with fail
      refine (wide_any g A c D (K + 1 + 3 * (20 - (k + 1))) top wr hcur ht ht2 (by omega)).mono ?_
      rintro e w2 ⟨x, rfl, _, _, hc2, hg2⟩
      have HC2 := Lib.hid hc2
      have HG2 := Lib.hid hg2
      have HO2 : Hid (w2.ownsRow w.heap.size 3 1 _ L.length (L.map I)) := Lib.hid (own_turn2 HO.out fun j hj => hg2.block j (HO.out.lt j hj).2 fun e => by
        have := (HO.out.lt j hj).1
        have := Option.some.inj e
        omega)
      clear hc2 hg2 hcur
      go_wp2_with (at_builtin; refine wpList_append_own _ rfl _ _ 35 rfl w.heap.size 3 i0 (.int .i64 0) 1 8 Try.underlying35 hi hz0 hz1 hz2 rfl (by decide) _ _ _ rfl (HO2.out.alloc _) ⟨w2.heap.size, 0, none⟩ 1 1 [.int .i64 (x : Int)] rfl rfl (cell_one_new _ _ _) (ints_oneCell .i64 [_]) (by unfold maxLen; omega) (by omega) (by have := HG.out.size; have := HG2.out.size; simp; omega) ?_)
      intro v' w3 hown' hgrow _
      have HO3 := Lib.hid hown'
      have HG3 : Hid (w2.grownBy w3 _) := Lib.hid ((World.grownBy_alloc w2 _ _).trans hgrow)
      clear hown' hgrow
      go_wp2
      go_roundw
      case rel =>
        have hle := HO2.out.lt
        refine ⟨k, L ++ [(x : Int)], by omega, by go_num, ?_, by simp; omega, ?_, ?_⟩
        · rw [List.length_append, List.map_append]
          exact HO3.out
        · have hge : ∀ q, some q = Value.ownBlock _ → w.heap.size ≤ q := fun q hq => (HO2.out.lt q hq.symm).1
          refine (HC2.out.turn HG3.out.size fun q hq hcase => HG3.out.block q hq fun e => ?_).more (by omega)
          have h1 := hge q e
          rcases hcase with h2 | ⟨o, hl, hA⟩
          · omega
          · obtain ⟨b, o', _, hA', hb', _⟩ := HD0.out.at_ hl
            rw [hA] at hA'
            injection hA' with hA'
            injection hA' with e1 e2
            omega
        · exact grown_two (HG.out.trans HG2.out) HG3.out fun j hj => (HO2.out.lt j hj).1
      case measure => simp [intOf]

end Go.Proofs.Yticndfdicalmcaa
