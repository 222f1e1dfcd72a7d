/- FrameOf, the program's. -/
import Derived.Test.YtlbnngolcoefdaaDoorAppB
import Derived.Test.YtlbnngolcoefdaaDoorCrc1
import Derived.Test.YtlbnngolcoefdaaDoorFr1
import Derived.Test.YtlbnngolcoefdaaDoorVarRd3
namespace Go.Proofs.YtlbnngolcoefdaaDoor
open Go.RowKit
set_option maxRecDepth 100000

theorem box_two {w0 w' : World} {g : Nat} {t : TypeId} {a b : Value} (hx : Box w0 g t #[a, b]) (hb : Below w0.heap.size w0 w') : w'.cell? ⟨g, 0, none⟩ = some a ∧ w'.cell? ⟨g, 1, none⟩ = some b ∧ g < w'.heap.size :=
  ⟨(hx.below hb hx.lt).cell 0, (hx.below hb hx.lt).cell 1, (hx.below hb hx.lt).lt⟩
theorem frD_byte {k : Nat} {L : List Nat} (hk : k ≤ 255) (hL : ∀ x ∈ L, x < 2 ^ 8) : ∀ x ∈ frD k L, x < 2 ^ 8 := by
  intro x hx
  have hv := varV_byte (L.length : Int)
  unfold frD at hx
  simp only [List.mem_append, List.mem_cons] at hx
  rcases hx with rfl | rfl | hx | hx
  · decide
  · omega
  · exact hv x hx
  · exact hL x hx
theorem frD_len (k : Nat) (L : List Nat) (hl : L.length ≤ 8000) : (frD k L).length ≤ 8010 := by
  have := varV_len (L.length : Int)
  unfold frD
  simp only [List.length_cons, List.length_append]
  omega
theorem crcV_frD (k : Nat) (L : List Nat) (hl : L.length ≤ 8000) : crcV (frD k L) = (crcL (frD k L) : Int) := by
  have := frD_len k L hl
  unfold crcV
  rw [if_neg (by omega)]

set_option maxHeartbeats 1600000 in
theorem implFrameOf_ok (k : Nat) (A : Option Addr) (c : Nat) (L : List Nat) (w : World) (hL : Lies w B8 A L) (hA : Tidy A c) (hw : ∀ x ∈ L, x < 2 ^ 8) (hk : k ≤ 255) (hl : L.length ≤ 8000) :
    Calls Tryd.prog 25 #[.agg #[.int .i64 k, .slice A L.length c]] w (NewBytes w (frB k L)) := by
  have HL := Lib.hid hL
  have HA := Lib.hid hA
  have HD := Lib.hid (frD_byte hk hw)
  have hDl := frD_len k L hl
  have HC := Lib.hid (crcV_frD k L hl)
  clear hL hA hw
  have hv := varV_len (L.length : Int)
  have hok : okF k L.length = true := decide_eq_true (by omega)
  have he : ([90, k] ++ varV (L.length : Int)) ++ L = frD k L := rfl
  have he1 : ([90, k] ++ varV (L.length : Int)).length ≤ 7 := by simp; omega
  obtain ⟨D1, hD1⟩ : ∃ D1, [90, k] ++ varV (L.length : Int) = D1 := ⟨_, rfl⟩
  rw [hD1] at he he1
  have HF : Hid (frD k L ++ four (crcL (frD k L)) = frB k L) := Lib.hid rfl
  generalize frD k L = D5 at *
  generalize frB k L = D8 at *
  have HE := Lib.hid he
  have HD1 := Lib.hid hD1
  clear he hD1
  go_enter Tryd.func25, Tryd.ntmps25
  go_wp2_with fail
  have hx0 := Box.made w 49 #[.int .i64 (k : Int), .slice A L.length c]
  have hb0 : Below w.heap.size w (w.alloc (Obj.cells #[.int .i64 (k : Int), .slice A L.length c] 49)) := (Below.refl _ _).alloc (Nat.le_refl _) _
  have hs0 : (w.alloc (Obj.cells #[.int .i64 (k : Int), .slice A L.length c] 49)).heap.size = w.heap.size + 1 := by simp
  generalize w.alloc (Obj.cells #[.int .i64 (k : Int), .slice A L.length c] 49) = w0 at *
  have HB0 := Lib.hid hb0
  have HX0 := Lib.hid hx0
  have HS0 := Lib.hid hs0
  clear hb0 hx0 hs0
  refine (implFrameOk_any k A c L.length _).mono ?_
  rintro e w1 ⟨rfl, hb1⟩
  rw [hok]
  obtain ⟨f0, f1, f2⟩ := box_two HX0.out hb1
  have HB1 := Lib.hid hb1
  clear hb1
  go_wp2_with fail
  clear f0 f1 f2
  have ho2 : (w1.alloc (Obj.cells #[B8 90, B8 k] 5)).ownsRow w0.heap.size 5 1 (.slice (some ⟨w1.heap.size, 0, none⟩) 2 2) 2 ([90, k].map B8) := World.ownsRow_lit w1 _ _ HB1.out.size (show 2 ≤ maxLen by decide) rfl
  have hb2 : Below w0.heap.size w0 (w1.alloc (Obj.cells #[B8 90, B8 k] 5)) := HB1.out.alloc HB1.out.size _
  generalize w1.alloc (Obj.cells #[B8 90, B8 k] 5) = w2 at *
  refine (implVar_any (L.length : Int) _).mono ?_
  rintro e w3 ⟨B3, c3, rfl, hv3, hb3⟩
  have ho3 := own_below ho2 hb3 (by have := hb2.size; omega)
  replace hb3 := below_then hb2 hb3
  have HO3 := Lib.hid ho3
  have HV3 := Lib.hid hv3
  have HB3 := Lib.hid hb3
  clear ho2 hb2 ho3 hv3 hb3
  obtain ⟨f0, f1, f2⟩ := box_two HX0.out HB3.out
  go_wp2_with (at_builtin; refine wpList_append_bytes _ rfl _ _ rfl w0.heap.size _ [90, k] rfl HO3.out B3 c3 (varV (L.length : Int)) rfl (Lies.of_own HV3.out) (own_tidy HV3.out) D1 HD1.out (by simp; omega) HB3.out.size ?_)
  intro A4 c4 w4 ho4 hg4
  have hb4 : Below w0.heap.size w0 w4 := HB3.out.trans (grown_below HO3.out hg4 (Nat.le_refl _) HB3.out.size)
  have HO4 := Lib.hid ho4
  have HB4 := Lib.hid hb4
  clear ho4 hg4 hb4 f0 f1 f2
  obtain ⟨f0, f1, f2⟩ := box_two HX0.out HB4.out
  go_wp2_with (at_builtin; refine wpList_append_bytes _ rfl _ _ rfl w0.heap.size _ D1 rfl HO4.out A c L rfl (HL.out.below (below_then HB0.out HB4.out)) HA.out D5 HE.out (by omega) HB4.out.size ?_)
  intro A5 c5 w5 ho5 hg5
  have hb5 : Below w0.heap.size w0 w5 := HB4.out.trans (grown_below HO4.out hg5 (Nat.le_refl _) HB4.out.size)
  have HO5 := Lib.hid ho5
  have HB5 := Lib.hid hb5
  clear ho5 hg5 hb5 f0 f1 f2
  go_wp2_with fail
  refine (implCrc_any A5 c5 D5 _ (Lies.of_own HO5.out) HD.out).mono ?_
  rintro e w6 ⟨rfl, rfl⟩
  rw [HC.out]
  go_wp2_with fail
  refine (implFour (crcL D5) (crcL_lt _ HD.out) _).mono ?_
  rintro e w7 ⟨B7, c7, rfl, hv7, hb7⟩
  have HO7 := Lib.hid (own_below HO5.out hb7 (Nat.le_refl _))
  have HV7 := Lib.hid hv7
  have HB7 := Lib.hid (below_then HB5.out hb7)
  clear hv7 hb7
  go_wp2_with (at_builtin; refine wpList_append_bytes _ rfl _ _ rfl w0.heap.size _ D5 rfl HO7.out B7 c7 (four (crcL D5)) rfl (Lies.of_own HV7.out) (own_tidy HV7.out) D8 HF.out (by simp only [four_len]; omega) HB7.out.size ?_)
  intro A8 c8 w8 ho8 hg8
  have hb8 : Below w0.heap.size w0 w8 := HB7.out.trans (grown_below HO7.out hg8 (Nat.le_refl _) HB7.out.size)
  have HO8 := Lib.hid ho8
  have HB8 := Lib.hid hb8
  clear ho8 hg8 hb8
  go_wp2
  go_ret
  exact ⟨A8, c8, rfl, own_mono HO8.out (by rw [HS0.out]; omega), below_then HB0.out HB8.out⟩

set_option maxHeartbeats 400000 in
theorem implFrameOf_bad (K : Int) (A : Option Addr) (c : Nat) (n : Nat) (w : World) (h : okF K n = false) :
    Calls Tryd.prog 25 #[.agg #[.int .i64 K, .slice A n c]] w (NewBytes w []) := by
  go_enter Tryd.func25, Tryd.ntmps25
  go_wp2_with fail
  refine (implFrameOk_any K A c n _).mono ?_
  rintro e w1 ⟨rfl, hb1⟩
  rw [h]
  have HB := Lib.hid hb1
  clear hb1 h
  go_wp2
  go_ret
  exact ⟨none, 0, rfl, World.ownsRow_nil _ _ _ _, below_then ((Below.refl _ _).alloc (Nat.le_refl _) _) HB.out⟩

theorem implFrameOf_any (K : Int) (A : Option Addr) (c : Nat) (L : List Nat) (w : World) (hL : Lies w B8 A L) (hA : Tidy A c) (hw : ∀ x ∈ L, x < 2 ^ 8) :
    Calls Tryd.prog 25 #[.agg #[.int .i64 K, .slice A L.length c]] w (NewBytes w (frV K L)) := by
  unfold frV
  cases h : okF K L.length
  · exact implFrameOf_bad K A c L.length w h
  · have h' := of_decide_eq_true h
    obtain ⟨k, rfl⟩ := Int.eq_ofNat_of_zero_le h'.1
    exact implFrameOf_ok k A c L w hL hA hw (by omega) h'.2.2

end Go.Proofs.YtlbnngolcoefdaaDoor
