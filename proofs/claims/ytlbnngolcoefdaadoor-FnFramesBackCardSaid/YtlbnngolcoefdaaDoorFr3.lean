/- FrameOf, the specification's; and the law's contracts. -/
import Derived.Test.YtlbnngolcoefdaaDoorFr2
import Derived.Deep.RegionHeld3
import Derived.Handy
namespace Go.Proofs.YtlbnngolcoefdaaDoor
open Go.RowKit
set_option maxRecDepth 100000

theorem lit_own (w0 w : World) (k : Nat) (h : w0.heap.size ≤ w.heap.size) : (w.alloc (Obj.cells #[B8 90, B8 k] 5)).ownsRow w0.heap.size 5 1 (.slice (some ⟨w.heap.size, 0, none⟩) 2 2) [90, k].length ([90, k].map B8) := World.ownsRow_lit w _ _ h (show 2 ≤ maxLen by decide) rfl

theorem own_drew {w : World} {base : Nat} {e : TypeId} {v : Value} {n : Nat} {xs : List Value} (h : w.ownsRow base e 1 v n xs) : w.drew.ownsRow base e 1 v n xs := h
/-- VarOf behind the new row or ahead of it: what was there stays. -/
theorem var_after {w0 w1 X w3 : World} (h : Below w0.heap.size w0 w1) (h3 : Below X.heap.size X w3) (hX : X = w1.drew ∨ (∃ o, X = w1.drew.alloc o) ∨ (∃ o, X = (w1.alloc o).drew)) : Below w0.heap.size w0 w3 := by
  have hs := h.size
  rcases hX with rfl | ⟨o, rfl⟩ | ⟨o, rfl⟩
  · exact h.drew.trans (h3.mono hs)
  · exact (h.drew.alloc hs o).trans (h3.mono (by simp; omega))
  · exact (h.alloc hs o).drew.trans (h3.mono (by simp; omega))

set_option maxHeartbeats 3200000 in
theorem specFrameOf_ok (k : Nat) (A : Option Addr) (c : Nat) (L : List Nat) (w : World) (hL : Lies w B8 A L) (hA : Tidy A c) (hw : ∀ x ∈ L, x < 2 ^ 8) (hk : k ≤ 255) (hl : L.length ≤ 8000) :
    Calls Tryd.prog 71 #[.agg #[.int .i64 k, .slice A L.length c]] w (NewBytes w (frB k L)) := by
  have HL := Lib.hid hL
  have HA := Lib.hid hA
  have HD := Lib.hid (frD_byte hk hw)
  have hDl := frD_len k L hl
  have HC := Lib.hid (crcV_frD k L hl)
  clear hL hA hw
  have hv := varV_len (L.length : Int)
  have hok : okF k L.length = true := decide_eq_true (by omega)
  have he : ([90, k] ++ varV (L.length : Int)) ++ L = frD k L := rfl
  have he1 : ([90, k] ++ varV (L.length : Int)).length ≤ 7 := by simp; omega
  obtain ⟨D1, hD1⟩ : ∃ D1, [90, k] ++ varV (L.length : Int) = D1 := ⟨_, rfl⟩
  rw [hD1] at he he1
  have HF : Hid (frD k L ++ four (crcL (frD k L)) = frB k L) := Lib.hid rfl
  generalize frD k L = D5 at *
  generalize frB k L = D8 at *
  have HE := Lib.hid he
  have HD1 := Lib.hid hD1
  clear he hD1
  go_enter Tryd.func71, Tryd.ntmps71
  go_wp2_with fail
  have hx0 := Box.made w 49 #[.int .i64 (k : Int), .slice A L.length c]
  have hb0 : Below w.heap.size w (w.alloc (Obj.cells #[.int .i64 (k : Int), .slice A L.length c] 49)) := (Below.refl _ _).alloc (Nat.le_refl _) _
  have hs0 : (w.alloc (Obj.cells #[.int .i64 (k : Int), .slice A L.length c] 49)).heap.size = w.heap.size + 1 := by simp
  generalize w.alloc (Obj.cells #[.int .i64 (k : Int), .slice A L.length c] 49) = w0 at *
  have HB0 := Lib.hid hb0
  have HX0 := Lib.hid hx0
  have HS0 := Lib.hid hs0
  clear hb0 hx0 hs0
  refine (specFrameOk_any k A c L.length _).mono ?_
  rintro e w1 ⟨rfl, hb1⟩
  rw [hok]
  obtain ⟨f0, f1, f2⟩ := box_two HX0.out hb1
  have HB1 := Lib.hid hb1
  clear hb1
  go_wp2_with fail
  have hsz := HB1.out.size
  have hwk : IntKind.u8.wrap (k : Int) = k := by go_arith
  have HM : Hid ([90, k].length + (varV (L.length : Int)).length ≤ 1073741824) := Lib.hid (by simp; omega)
  go_region_held3 (fun w' => w'.cell? ⟨w.heap.size, 0, none⟩ = some (.int .i64 k) ∧ w'.cell? ⟨w.heap.size, 1, none⟩ = some (.slice A L.length c)) (first | (go_keep; done) | (refine ⟨?_, ?_⟩ <;> assumption) | trivial)
    (first
      | (go_at_call 106; (with_reducible refine Calls.mono (specVar_any (L.length : Int) _) ?_); rintro e w3 ⟨B3, c3, rfl, hv3, hb3⟩; have HV3 := Lib.hid hv3; have HW3 := Lib.hid hb3; have HB3 := Lib.hid (var_after HB1.out hb3 (by first | exact .inl rfl | exact .inr (.inl ⟨_, rfl⟩) | exact .inr (.inr ⟨_, rfl⟩))); clear hv3 hb3; obtain ⟨g0, g1, g2⟩ := box_two HX0.out HB3.out)
      | (have ho3 : w3.ownsRow w0.heap.size 5 1 (.slice (some ⟨w1.heap.size, 0, none⟩) 2 2) [90, k].length ([90, k].map B8) := (by first | exact own_below (lit_own w0 w1 k hsz) HW3.out (Nat.le_refl _) | exact own_below (lit_own w0 w1.drew k hsz) HW3.out (Nat.le_refl _) | exact own_below (own_drew (lit_own w0 w1 k hsz)) HW3.out (Nat.le_refl _)); refine step_append_bytes _ (by rfl) _ _ (by rfl) w0.heap.size _ [90, k] (by rfl) ho3 B3 c3 (varV (L.length : Int)) (by rfl) (Lies.of_own HV3.out) (own_tidy HV3.out) D1 HD1.out HM.out HB3.out.size ?_; intro A4 c4 w4 ho4 hg4; have HB4 := Lib.hid (HB3.out.trans (grown_below ho3 hg4 (Nat.le_refl _) HB3.out.size)); have HO4 := Lib.hid ho4; clear ho3 ho4 hg4; obtain ⟨j0, j1, j2⟩ := box_two HX0.out HB4.out)
      | (have ho3 : (w3.alloc (Obj.cells #[B8 90, B8 k] 5)).ownsRow w0.heap.size 5 1 (.slice (some ⟨w3.heap.size, 0, none⟩) 2 2) [90, k].length ([90, k].map B8) := lit_own w0 w3 k HB3.out.size; refine step_append_bytes _ (by rfl) _ _ (by rfl) w0.heap.size _ [90, k] (by rfl) ho3 B3 c3 (varV (L.length : Int)) (by rfl) (Lies.of_own (HV3.out.alloc _)) (own_tidy HV3.out) D1 HD1.out HM.out (Nat.le_trans HB3.out.size (by simp)) ?_; intro A4 c4 w4 ho4 hg4; have HB4 := Lib.hid ((HB3.out.alloc HB3.out.size _).trans (grown_below ho3 hg4 (Nat.le_refl _) (Nat.le_trans HB3.out.size (by simp)))); have HO4 := Lib.hid ho4; clear ho3 ho4 hg4; obtain ⟨j0, j1, j2⟩ := box_two HX0.out HB4.out))
  all_goals
    clear f0 f1 f2 g0 g1 g2
    go_wp2_with (at_builtin; refine wpList_append_bytes _ rfl _ _ rfl w0.heap.size _ D1 rfl HO4.out A c L rfl (HL.out.below (below_then HB0.out HB4.out)) HA.out D5 HE.out (by omega) HB4.out.size ?_)
    intro A5 c5 w5 ho5 hg5
    have hb5 : Below w0.heap.size w0 w5 := HB4.out.trans (grown_below HO4.out hg5 (Nat.le_refl _) HB4.out.size)
    have HO5 := Lib.hid ho5
    have HB5 := Lib.hid hb5
    clear ho5 hg5 hb5 j0 j1 j2
    go_wp2_with fail
    refine (specCrc_any A5 c5 D5 _ (Lies.of_own HO5.out) HD.out).mono ?_
    rintro e w6 ⟨rfl, rfl⟩
    rw [HC.out]
    go_wp2_with fail
    refine (specFour (crcL D5) (crcL_lt _ HD.out) _).mono ?_
    rintro e w7 ⟨B7, c7, rfl, hv7, hb7⟩
    have HO7 := Lib.hid (own_below HO5.out hb7 (Nat.le_refl _))
    have HV7 := Lib.hid hv7
    have HB7 := Lib.hid (below_then HB5.out hb7)
    clear hv7 hb7
    go_wp2_with (at_builtin; refine wpList_append_bytes _ rfl _ _ rfl w0.heap.size _ D5 rfl HO7.out B7 c7 (four (crcL D5)) rfl (Lies.of_own HV7.out) (own_tidy HV7.out) D8 HF.out (by simp only [four_len]; omega) HB7.out.size ?_)
    intro A8 c8 w8 ho8 hg8
    have hb8 : Below w0.heap.size w0 w8 := HB7.out.trans (grown_below HO7.out hg8 (Nat.le_refl _) HB7.out.size)
    have HO8 := Lib.hid ho8
    have HB8 := Lib.hid hb8
    clear ho8 hg8 hb8
    go_wp2
    go_ret
    exact ⟨A8, c8, rfl, own_mono HO8.out (by rw [HS0.out]; omega), below_then HB0.out HB8.out⟩

set_option maxHeartbeats 400000 in
theorem specFrameOf_bad (K : Int) (A : Option Addr) (c : Nat) (n : Nat) (w : World) (h : okF K n = false) :
    Calls Tryd.prog 71 #[.agg #[.int .i64 K, .slice A n c]] w (NewBytes w []) := by
  go_enter Tryd.func71, Tryd.ntmps71
  go_wp2_with fail
  refine (specFrameOk_any K A c n _).mono ?_
  rintro e w1 ⟨rfl, hb1⟩
  rw [h]
  have HB := Lib.hid hb1
  clear hb1 h
  go_wp2
  go_ret
  exact ⟨none, 0, rfl, World.ownsRow_nil _ _ _ _, below_then ((Below.refl _ _).alloc (Nat.le_refl _) _) HB.out⟩

theorem specFrameOf_any (K : Int) (A : Option Addr) (c : Nat) (L : List Nat) (w : World) (hL : Lies w B8 A L) (hA : Tidy A c) (hw : ∀ x ∈ L, x < 2 ^ 8) :
    Calls Tryd.prog 71 #[.agg #[.int .i64 K, .slice A L.length c]] w (NewBytes w (frV K L)) := by
  unfold frV
  cases h : okF K L.length
  · exact specFrameOf_bad K A c L.length w h
  · have h' := of_decide_eq_true h
    obtain ⟨k, rfl⟩ := Int.eq_ofNat_of_zero_le h'.1
    exact specFrameOf_ok k A c L w hL hA hw (by omega) h'.2.2

theorem frV_len (K : Int) (L : List Nat) : (frV K L).length ≤ 8014 := by
  unfold frV
  split
  · rename_i h
    have h' := of_decide_eq_true h
    have := frD_len K.toNat L h'.2.2
    unfold frB
    rw [List.length_append, four_len]
    omega
  · simp
theorem frV_byte (K : Int) (L : List Nat) (hL : ∀ x ∈ L, x < 2 ^ 8) : ∀ x ∈ frV K L, x < 2 ^ 8 := by
  unfold frV
  split
  · rename_i h
    have h' := of_decide_eq_true h
    exact frB_byte (by omega) hL (varV_byte _)
  · simp

end Go.Proofs.YtlbnngolcoefdaaDoor
