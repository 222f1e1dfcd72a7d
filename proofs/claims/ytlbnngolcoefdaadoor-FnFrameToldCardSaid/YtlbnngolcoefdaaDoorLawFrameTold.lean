/- The law FnFrameTold walked. -/
import Derived.Test.YtlbnngolcoefdaaDoorDrawF
import Derived.Test.YtlbnngolcoefdaaDoorDraw3p
import Derived.Test.YtlbnngolcoefdaaDoorScene4
import Derived.StillTailTactics
import Derived.Deep.RegionWith
namespace Go.Proofs.YtlbnngolcoefdaaDoor
open Go.RowKit
set_option maxRecDepth 100000

set_option maxHeartbeats 400000 in
theorem bytesOf_any (A : Option Addr) (c : Nat) (D : List Nat) (w : World) (hL : Lies w B8 A D) (hA : Tidy A c) (hn : D.length ≤ 1048576) :
    Calls Tryd.prog 24 #[.slice A D.length c] w (NewBytes w D) := by
  have hO : (w.alloc (Obj.cells #[] 5)).ownsRow w.heap.size 5 1 (.slice (some ⟨w.heap.size, 0, none⟩) 0 0) ([] : List Nat).length (([] : List Nat).map B8) := World.ownsRow_lit w _ _ (Nat.le_refl _) (show 0 ≤ maxLen by decide) rfl
  have hb0 : Below w.heap.size w (w.alloc (Obj.cells #[] 5)) := (Below.refl _ _).alloc (Nat.le_refl _) _
  have HO := Lib.hid hO
  have HB0 := Lib.hid hb0
  have HL := Lib.hid (hL.below hb0)
  have HA := Lib.hid hA
  clear hO hb0 hL hA
  go_enter Tryd.func24, Tryd.ntmps24
  go_wp2_with (at_builtin; refine wpList_append_bytes _ rfl _ _ rfl w.heap.size _ [] rfl HO.out A c D rfl HL.out HA.out D rfl (by simp; omega) HB0.out.size ?_)
  intro A4 c4 w4 ho4 hg4
  have HO4 := Lib.hid ho4
  have HB4 := Lib.hid (HB0.out.trans (grown_below HO.out hg4 (Nat.le_refl _) HB0.out.size))
  clear ho4 hg4
  go_wp2
  go_ret
  exact ⟨A4, c4, rfl, HO4.out, HB4.out⟩

/-- What the law's last line asks. -/
theorem told_math {k : Nat} {L : List Nat} {i x y : Nat} (hk : k < 2 ^ 8) (hL : ∀ x ∈ L, x < 2 ^ 8) (hl : L.length ≤ 8000) (hx : (frB k L)[i]? = some x) (hxy : y ≠ x) (hy : y < 2 ^ 8) :
    rO ((frB k L).set i y) 0 = false ∨ rN ((frB k L).set i y) 0 ≠ ((frB k L).length : Int) := by
  have hlen := frB_len k L
  unfold rO rN rdV
  have hi : i < (frB k L).length := (List.getElem?_eq_some_iff.1 hx).1
  rw [if_pos ⟨by omega, by rw [List.length_set]; omega⟩]
  show (frP (List.drop 0 _)).isSome = false ∨ _
  rw [show ((0 : Int).toNat) = 0 from rfl, List.drop_zero]
  cases h : frP ((frB k L).set i y) with
  | none => exact .inl rfl
  | some r =>
    obtain ⟨k', B, l⟩ := r
    right
    have := frame_told hk hL (varV_byte _) hl hx hxy hy h
    simp only
    omega
theorem back_math {k : Nat} {L : List Nat} (hl : L.length ≤ 8000) : rO (frB k L) 0 = true ∧ rN (frB k L) 0 = ((frB k L).length : Int) ∧ 7 ≤ (frB k L).length ∧ (frB k L).length ≤ 8014 := by
  have hlen := frB_len k L
  have hb := frP_back k L [] hl
  rw [List.append_nil] at hb
  have hD := frD_len k L hl
  have h14 : (frB k L).length ≤ 8014 := by
    unfold frB
    rw [List.length_append, four_len]
    omega
  have h1 : 1 ≤ (varV (L.length : Int)).length := by
    rcases Nat.eq_zero_or_pos (varV (L.length : Int)).length with h0 | h0
    · have h := rd_varV L.length [] (by omega)
      rw [List.length_eq_zero_iff.1 h0] at h
      simp [rdF] at h
    · exact h0
  unfold rO rN rdV
  rw [if_pos ⟨by omega, by omega⟩, show ((0 : Int).toNat) = 0 from rfl, List.drop_zero, hb]
  exact ⟨rfl, by simp, by omega, h14⟩

set_option maxHeartbeats 3200000 in
theorem lawFrameTold (A0 : Option Addr) (c0 : Nat) (D0 : List Nat) (b : Addr) (w : World) (hG : NoFrame w b) (hL : Lies w B8 A0 D0) (hw : ∀ x ∈ D0, x < 2 ^ 8) (hbig : D0.length ≤ 1048576) :
    Calls Tryd.prog 5 #[.slice A0 D0.length c0] w fun e w' => e = .returned (.bool true) ∧ Below w.heap.size w w' := by
  have HG := Lib.hid hG
  have HL := Lib.hid hL
  have HW := Lib.hid hw
  clear hG hL hw
  have tb : decide (1048576 < D0.length) = false := by simp; omega
  go_enter Tryd.func5, Tryd.ntmps5
  go_wp2_with fail
  refine (big_any A0 D0.length c0 w).mono ?_
  rintro e w1 ⟨rfl, rfl⟩
  rw [tb]
  go_wp2_with fail
  refine (drawFrameOf_any A0 c0 D0 w HL.out HW.out hbig).mono ?_
  rintro e w1 ⟨K, B, d, L, rfl, ho1, hl1, hb1, hbl1⟩
  have HO1 := Lib.hid ho1
  have HBy := Lib.hid hb1
  have HB1 := Lib.hid hbl1
  clear ho1 hb1 hbl1 tb
  go_wp2_with fail
  have sx := Box.made w1 49 #[.int .i64 K, .slice B L.length d]
  have HB2 : Hid (Below w.heap.size w (w1.alloc (Obj.cells #[.int .i64 K, .slice B L.length d] 49))) := Lib.hid (HB1.out.alloc HB1.out.size _)
  have HO2 : Hid ((w1.alloc (Obj.cells #[.int .i64 K, .slice B L.length d] 49)).ownsRow w.heap.size 5 1 (.slice B L.length d) L.length (L.map B8)) := Lib.hid (HO1.out.alloc _)
  clear HO1 HB1
  generalize w1.alloc (Obj.cells #[.int .i64 K, .slice B L.length d] 49) = w2 at *
  generalize w1.heap.size = sf at *
  refine (implFrameOf_any K B d L w2 (Lies.of_own HO2.out) (own_tidy HO2.out) HBy.out).mono ?_
  rintro e w3 ⟨Ad, cd, rfl, ho3, hb3⟩
  have sx3 := sx.below hb3 sx.lt
  obtain ⟨f0, f1, f2⟩ : w3.cell? ⟨sf, 0, none⟩ = some (.int .i64 K) ∧ w3.cell? ⟨sf, 1, none⟩ = some (.slice B L.length d) ∧ sf < w3.heap.size := ⟨sx3.cell 0, sx3.cell 1, sx3.lt⟩
  have HB3 := Lib.hid (below_then HB2.out hb3)
  have hs2 := HB2.out.size
  have HO3 := Lib.hid (own_mono ho3 hs2)
  clear ho3 hb3 sx sx3 HB2 HO2
  go_wp2_with fail
  refine (specFrameOk_any K B d L.length w3).mono ?_
  rintro e w4 ⟨rfl, hb4⟩
  have HO4 := Lib.hid (own_below HO3.out hb4 (Nat.le_refl _))
  have HB4 := Lib.hid (below_then HB3.out hb4)
  clear hb4 HO3 HB3 f0 f1 f2
  cases hok : okF K L.length with
  | false =>
    have hz : frV K L = [] := by unfold frV; rw [if_neg (by rw [hok]; simp)]
    rw [hz]
    clear HO4 hok hz
    go_wp2
    go_ret
    exact ⟨rfl, HB4.out⟩
  | true =>
    have hok' := of_decide_eq_true hok
    obtain ⟨k, rfl⟩ := Int.eq_ofNat_of_zero_le hok'.1
    have hz : frV (k : Int) L = frB k L := by unfold frV; rw [if_pos hok, Int.toNat_natCast]
    rw [hz] at HO4 ⊢
    have hk8 : k < 2 ^ 8 := by omega
    obtain ⟨m1, m2, m3, m4⟩ := back_math (k := k) (L := L) hok'.2.2
    have HM : Hid (∀ i x y, (frB k L)[i]? = some x → y ≠ x → y < 2 ^ 8 → rO ((frB k L).set i y) 0 = false ∨ rN ((frB k L).set i y) 0 ≠ ((frB k L).length : Int)) := Lib.hid fun i x y hx hxy hy => told_math hk8 HBy.out hok'.2.2 hx hxy hy
    have HQb : Hid (∀ x ∈ frB k L, x < 2 ^ 8) := Lib.hid (frB_byte hk8 HBy.out (varV_byte _))
    have HN := Lib.hid m2
    have HOo := Lib.hid m1
    clear hok hok' hz m1 m2 hk8
    generalize frB k L = Q at *
    obtain ⟨n, hn⟩ : ∃ n, Q.length = n := ⟨_, rfl⟩
    have Hn := Lib.hid hn
    rw [hn] at m3 m4 HO4 ⊢
    clear hn
    have t7 : decide ((n : Int) < 7) = false := by simp; omega
    have t7n : decide (n < 7) = false := by simp; omega
    go_wp2_with fail
    have hby := bytesOf_any Ad cd Q w4 (by have := HO4.out; rw [← Hn.out] at this; exact Lies.of_own this) (own_tidy HO4.out) (by rw [Hn.out]; omega)
    rw [Hn.out] at hby
    refine hby.mono ?_
    rintro e w5 ⟨A5, c5, rfl, ho5, hb5⟩
    have HO5 := Lib.hid (own_below HO4.out hb5 (Nat.le_refl _))
    have HB5 := Lib.hid (below_then HB4.out hb5)
    have hrd := implFrameRead_b A5 c5 Q 0 b w5 (HG.out.below HB5.out) (Lies.of_own ho5) HQb.out (row_cap ho5).1 (row_cap ho5).2 (by rw [Hn.out]; omega)
    rw [HN.out, HOo.out, Hn.out] at hrd
    rw [Hn.out] at ho5
    have HRd := Lib.hid hrd
    clear hby ho5 hb5 hrd HO4 HB4
    rw [Hn.out]
    go_wp2_with fail
    refine HRd.out.mono ?_
    rintro e w6 ⟨A6, c6, rfl, ho6, hb6⟩
    have HO6 := Lib.hid (own_below HO5.out hb6 (Nat.le_refl _))
    have HB6 := Lib.hid (below_then HB5.out hb6)
    clear ho6 hb6 HO5 HB5 HRd
    have HB7 : Hid (Below w.heap.size w (w6.alloc (Obj.cells #[.int .i64 (rK Q 0), .slice A6 (rB Q 0).length c6] 49))) := Lib.hid (HB6.out.alloc HB6.out.size _)
    have HO7 : Hid ((w6.alloc (Obj.cells #[.int .i64 (rK Q 0), .slice A6 (rB Q 0).length c6] 49)).ownsRow w.heap.size 5 1 (.slice Ad n cd) n (Q.map B8)) := Lib.hid (HO6.out.alloc _)
    clear HO6 HB6
    go_wp2_with fail
    generalize w6.alloc (Obj.cells #[.int .i64 (rK Q 0), .slice A6 (rB Q 0).length c6] 49) = w7 at *
    refine (lpick_any A0 c0 D0 3 (n : Int) w7 (HL.out.below HB7.out) HW.out hbig (by omega) (by omega)).mono ?_
    rintro e w8 ⟨r, rfl, hr, rfl⟩
    have hrn : (r : Int) < (n : Int) := hr.1 (by omega)
    have hrn2 : r < n := by omega
    clear hr
    obtain ⟨gd, cap, hv, hgd, hgl⟩ := HO7.out.form (by omega)
    injection hv with hv1 _ hv3
    subst hv1 hv3
    obtain ⟨x, hx⟩ : ∃ x, Q[r]? = some x := ⟨Q[r]'(by rw [Hn.out]; exact hrn2), List.getElem?_eq_getElem _⟩
    have hcx : w7.cell? ⟨gd, r, none⟩ = some (B8 x) := by
      rw [HO7.out.cellAt r (by omega), List.getElem?_map, hx]
      rfl
    have hfx := HO7.out.frozenAt r
    have hx8 := HQb.out x (List.mem_of_getElem? hx)
    have HX := Lib.hid hx
    have HC : Hid (∀ W, Below w7.heap.size w7 W → Calls Tryd.prog 26 #[.slice A0 D0.length c0, .int .i64 4, .int .i64 255] W fun e w' => ∃ p : Nat, e = .returned (.int .i64 p) ∧ LPick 255 p ∧ W = w') := Lib.hid fun W hW => lpick_any A0 c0 D0 4 255 W (HL.out.below (below_then HB7.out hW)) HW.out hbig (by omega) (by omega)
    have hr0 : (0 : Int) ≤ (r : Int) := by omega
    clear hx
    go_wp2_with fail
    go_region_with (first | (go_at_call 26; refine Calls.mono (HC.out _ ?_) ?_; exact (Below.refl _ _).drew; rintro e w9 ⟨p, rfl, hp, rfl⟩; have hp2 : (p : Int) < 255 := hp.1 (by omega); clear hp; have ew1 : IntKind.i64.wrap (1 + (p : Int)) = 1 + (p : Int) := IntWalk.i64_in _ (by omega); have ew2 : IntKind.u8.wrap (1 + (p : Int)) = 1 + (p : Int) := (by go_arith)))
    all_goals
      obtain ⟨y, hy⟩ : ∃ y, (x + 1 + p) % 256 = y := ⟨_, rfl⟩
      have ey : IntKind.u8.wrap ((x : Int) + (1 + (p : Int))) = (y : Int) := by
        rw [IntKind.wrap_u8]
        omega
      rw [ey]
      have hy8 : y < 2 ^ 8 := by omega
      have hyx : y ≠ x := by omega
      have hst := (HO7.out.stored r (B8 y)).1
      rw [← List.map_set] at hst
      have HMy := Lib.hid (HM.out r x y HX.out hyx hy8)
      have HO8 : Hid (((w7.setCell ⟨gd, r, none⟩ (.int .u8 (y : Int))).drew).ownsRow w.heap.size 5 1 (.slice (some ⟨gd, 0, none⟩) n cd) n ((Q.set r y).map B8)) := Lib.hid hst
      have HB8 : Hid (Below w.heap.size w (w7.setCell ⟨gd, r, none⟩ (.int .u8 (y : Int))).drew) := Lib.hid ((HB7.out.setCell (p := ⟨gd, r, none⟩) hgd _).drew)
      have HQ8 : Hid (∀ z ∈ Q.set r y, z < 2 ^ 8) := Lib.hid fun z hz => by
        rcases List.mem_or_eq_of_mem_set hz with hz | rfl
        · exact HQb.out z hz
        · exact hy8
      have Hn8 : Hid ((Q.set r y).length = n) := Lib.hid (by rw [List.length_set, Hn.out])
      rw [Hn.out] at HMy
      clear hst ey hy hyx hy8 hcx hfx HM HX HC ew1 ew2 hp2 HO7 HB7 hgl
      generalize (w7.setCell ⟨gd, r, none⟩ (.int .u8 (y : Int))).drew = w8 at *
      generalize Q.set r y = Q8 at *
      have hL8 : Lies w8 B8 (some ⟨gd, 0, none⟩) Q8 := Lies.of_own (by have := HO8.out; exact this)
      have hcap := row_cap HO8.out
      have hrd := implFrameRead_b (some ⟨gd, 0, none⟩) cd Q8 0 b w8 (HG.out.below HB8.out) hL8 HQ8.out (by rw [Hn8.out]; exact hcap.1) hcap.2 (by rw [Hn8.out]; omega)
      rw [Hn8.out] at hrd
      have HRd := Lib.hid hrd
      clear hrd hL8 hcap
      go_wp2_with fail
      refine HRd.out.mono ?_
      rintro e w9 ⟨A9, c9, rfl, ho9, hb9⟩
      have HB9 := Lib.hid (below_then HB8.out hb9)
      clear ho9 hb9 HRd HO8 HB8
      generalize rK Q8 0 = k9 at *
      generalize (rB Q8 0).length = l9 at *
      have tn : ((n : Int) == (n : Int)) = true := by simp
      rcases HMy.out with ho | hne
      · rw [ho]
        clear HMy ho
        generalize rN Q8 0 = n9 at *
        go_wp2
        go_ret
        exact ⟨rfl, HB9.out.alloc HB9.out.size _⟩
      · have tne : (rN Q8 0 != (n : Int)) = true := by simpa using hne
        have tne2 : (rN Q8 0 == (n : Int)) = false := by simpa using hne
        clear HMy hne
        generalize rN Q8 0 = n9 at *
        cases rO Q8 0
        · go_wp2
          go_ret
          exact ⟨rfl, HB9.out.alloc HB9.out.size _⟩
        · go_wp2
          go_ret
          exact ⟨rfl, HB9.out.alloc HB9.out.size _⟩

end Go.Proofs.YtlbnngolcoefdaaDoor
