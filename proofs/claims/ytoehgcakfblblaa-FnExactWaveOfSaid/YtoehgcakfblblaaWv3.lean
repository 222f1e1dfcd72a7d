import Derived.Test.YtoehgcakfblblaaWv1
import Derived.Test.YtoehgcakfblblaaWvMath3
import Derived.Test.YtoehgcakfblblaaAt2
/- The methods of the nine levels: the number at an index, the place of a number, how many are less, the k-th smallest. -/
namespace Go.Proofs.Ytoehgcakfblblaa
open Go.RowKit
set_option maxRecDepth 100000

/-- The words of the levels. -/
def lvs (P : List LvA) : List (List Nat) := P.map LvA.L
theorem lvs_len (P : List LvA) : (lvs P).length = P.length := by simp [lvs]
theorem lvs_get {P : List LvA} {k : Nat} {p : LvA} (h : P[k]? = some p) : (lvs P)[k]? = some p.L := by simp [lvs, h]

/-- A matrix lies in block g. -/
structure Mtx (w : World) (g n : Nat) (P : List LvA) : Prop where
  len : P.length = 9
  lev : ∀ k p, P[k]? = some p → LvAt w g (k * 3) n p ∧ LvOk w n p
  top : w.cell? ⟨g, 27, none⟩ = some (.int .i64 n)
  lt : g < w.heap.size
  small : n ≤ 1000
theorem Mtx.below {w w' : World} {g n : Nat} {P : List LvA} (h : Mtx w g n P) (hb : Below w.heap.size w w') : Mtx w' g n P :=
  ⟨h.len, fun k p hp => ⟨(h.lev k p hp).1.below hb, (h.lev k p hp).2.below hb⟩, (hb.cell (p := ⟨g, 27, none⟩) h.lt).trans h.top, Nat.lt_of_lt_of_le h.lt hb.size, h.small⟩

set_option maxHeartbeats 1600000 in
theorem zerosIn_any (g o n lo hi : Nat) (p : LvA) (w : World) (h : LvAt w g o n p) (hp : LvOk w n p) (hlo : lo ≤ hi) (hi' : hi ≤ n) (hn : n ≤ 1000) :
    Calls Try.prog 104 #[.pointer (some ⟨g, o, none⟩), .int .i64 lo, .int .i64 hi] w fun e w' => e = .returned (.int .i64 (cnt p.L 0 hi - cnt p.L 0 lo : Nat)) ∧ Below w.heap.size w w' := by
  have C := Lib.hid fun (i : Nat) (hi : i ≤ n) (W : World) (hW : Below w.heap.size w W) => (down_any g o n 0 i p W (h.below hW) (hp.below hW) (by omega) hi hn).mono fun _ _ h => (⟨h.1, below_then hW h.2⟩ : _ ∧ Below w.heap.size w _)
  have hz : ∀ i, dn n p.L 0 i = cnt p.L 0 i := fun i => by unfold dn; rw [Nat.zero_mul, Nat.zero_add]; rfl
  have C1 := Lib.hid (C.out hi hi')
  have C2 := Lib.hid (C.out lo (by omega))
  rw [hz] at C1 C2
  have hm := cnt_mono' p.L 0 hlo
  have h1 := cnt_le p.L 0 hi
  generalize cnt p.L 0 hi = a at *
  generalize cnt p.L 0 lo = b at *
  have e1 : IntKind.i64.wrap ((a : Int) - (b : Int)) = (a : Int) - (b : Int) := IntWalk.i64_in _ (by omega)
  have HE : Hid (((a - b : Nat) : Int) = (a : Int) - (b : Int)) := Lib.hid (by omega)
  clear h hp C hz
  go_enter Try.func104, Try.ntmps104
  go_wp2_with fail
  refine (C1.out w (Below.refl _ _)).mono ?_
  rintro e w1 ⟨rfl, hb1⟩
  have HB1 := Lib.hid hb1
  clear hb1
  go_wp2_with fail
  refine (C2.out w1 HB1.out).mono ?_
  rintro e w2 ⟨rfl, hb2⟩
  have HB2 := Lib.hid hb2
  clear hb2
  go_wp2
  go_ret
  exact ⟨ret_int HE.out.symm, HB2.out⟩

set_option maxHeartbeats 1600000 in
theorem place_any (g n x i : Nat) (P : List LvA) (w : World) (h : Mtx w g n P) (hx : x < 512) (hi : i ≤ n) :
    Calls Try.prog 63 #[.pointer (some ⟨g, 0, none⟩), .int .i64 x, .int .i64 i] w fun e w' => e = .returned (.int .i64 (plW n (lvs P) x i)) ∧ Below w.heap.size w w' := by
  have HM := Lib.hid fun (W : World) (hW : Below w.heap.size w W) => h.below hW
  have hlen := h.len
  have hn := h.small
  have hl : (lvs P).length = 9 := by rw [lvs_len, hlen]
  have HL := Lib.hid hl
  clear h hl
  go_enter Try.func63, Try.ntmps63
  go_wp2
  go_loopw [2, 8] (fun q j wr => ∃ m k : Nat, k ≤ 9 ∧ j = .int .i64 k ∧ q = .int .i64 m ∧ m ≤ n ∧ Hid (plW n ((lvs P).drop k) x m = plW n (lvs P) x i) ∧ Below w.heap.size w wr) (fun _ j _ => 9 - (intOf j).toNat)
  case atStart => exact ⟨i, 0, Nat.zero_le _, rfl, rfl, hi, Lib.hid (by rw [List.drop_zero]), Below.refl _ _⟩
  case round =>
    obtain ⟨m, k, hk, rfl, rfl, hm, HV, hb⟩ := hrel
    have HB := Lib.hid hb
    clear hb
    by_cases hlt : k < 9
    · obtain ⟨p, hp⟩ : ∃ p, P[k]? = some p := ⟨P[k]'(by omega), List.getElem?_eq_getElem (by omega)⟩
      have hst := place_step HL.out (lvs_get hp) n x m
      have CW := Lib.hid fun (W : World) => waveBit_any x k W (by omega) (by omega)
      have hb2 : x / 2 ^ (8 - k) % 2 < 2 := Nat.mod_lt _ (by omega)
      obtain ⟨b, hbb⟩ : ∃ b, x / 2 ^ (8 - k) % 2 = b := ⟨_, rfl⟩
      rw [hbb] at CW hb2 hst
      have hdl := dn_le n p.L b m hb2 hm
      have CD := Lib.hid fun (W : World) (hW : Below w.heap.size w W) => (down_any g (k * 3) n b m p W ((HM.out W hW).lev k p hp).1 ((HM.out W hW).lev k p hp).2 hb2 hm hn).mono fun _ _ h => (⟨h.1, below_then hW h.2⟩ : _ ∧ Below w.heap.size w _)
      obtain ⟨d, hd⟩ : ∃ d, dn n p.L b m = d := ⟨_, rfl⟩
      rw [hd] at CD hst hdl
      have HV2 : Hid (plW n ((lvs P).drop (k + 1)) x d = plW n (lvs P) x i) := Lib.hid (by rw [← HV.out, hst])
      have k9 : (k : Int) < 9 := by omega
      clear hst hbb hd HV hp
      have inv : Below w.heap.size w wr.drew := HB.out.drew
      go_wp2_with fail
      go_region_held3 (fun _ => True) (trivial) (first | (go_at_call 106; (with_reducible refine Calls.mono (CW.out _) ?_); rintro e w8 ⟨rfl, rfl⟩) | (go_at_call 105; (with_reducible refine Calls.mono (CD.out _ inv) ?_); rintro e w8 ⟨rfl, inv2⟩; replace inv := inv2; clear inv2))
      have HF := Lib.hid inv
      clear inv
      go_wp2
      go_roundw
      case rel => exact ⟨d, k + 1, by omega, by go_num, rfl, hdl, HV2, HF.out⟩
      case measure => simp [intOf]; omega
    · obtain rfl : k = 9 := by omega
      have HV2 : Hid (plW n (lvs P) x i = m) := Lib.hid (by rw [← HV.out, lv_end HL.out]; rfl)
      clear HV
      go_wp2
      go_ret
      exact ⟨ret_int (by rw [HV2.out]), HB.out⟩

end Go.Proofs.Ytoehgcakfblblaa

/- The methods of the nine levels: how many are less, the k-th smallest. -/
namespace Go.Proofs.Ytoehgcakfblblaa
open Go.RowKit
set_option maxRecDepth 100000

theorem lessW_le (n : Nat) : ∀ (Ls : List (List Nat)) (x lo hi : Nat), lo ≤ hi → lessW n Ls x lo hi ≤ hi - lo
  | [], _, _, _, _ => Nat.zero_le _
  | L :: Ls, x, lo, hi, h => by
    have ih := lessW_le n Ls x _ _ (dn_mono n L (x / 2 ^ Ls.length % 2) h)
    have h0 := cnt_mono' L 0 h
    have h1 := cnt_mono' L 1 h
    have hs := cnt_sum L lo
    have hs' := cnt_sum L hi
    rw [lessW]
    rcases (show x / 2 ^ Ls.length % 2 = 0 ∨ x / 2 ^ Ls.length % 2 = 1 by omega) with e | e
    · rw [e] at ih ⊢
      have d0 : ∀ i, dn n L 0 i = cnt L 0 i := fun i => by unfold dn; rw [Nat.zero_mul, Nat.zero_add]; rfl
      rw [d0, d0] at *
      rw [if_neg (by omega)]
      omega
    · rw [e] at ih ⊢
      have d1 : ∀ i, dn n L 1 i = cnt L 0 n + cnt L 1 i := fun i => by unfold dn; rw [Nat.one_mul]; rfl
      rw [d1, d1] at *
      rw [if_pos rfl]
      omega

set_option maxHeartbeats 3200000 in
theorem wless_any (g n x lo hi : Nat) (P : List LvA) (w : World) (h : Mtx w g n P) (hx : x < 512) (hlo : lo ≤ hi) (hi' : hi ≤ n) :
    Calls Try.prog 61 #[.pointer (some ⟨g, 0, none⟩), .int .i64 x, .int .i64 lo, .int .i64 hi] w fun e w' => e = .returned (.int .i64 (lessW n (lvs P) x lo hi)) ∧ Below w.heap.size w w' := by
  have HM := Lib.hid fun (W : World) (hW : Below w.heap.size w W) => h.below hW
  have hlen := h.len
  have hn := h.small
  have hl : (lvs P).length = 9 := by rw [lvs_len, hlen]
  have HL := Lib.hid hl
  have HTop := Lib.hid (lessW_le n (lvs P) x lo hi hlo)
  clear h hl
  go_enter Try.func61, Try.ntmps61
  go_wp2
  go_loopw [2, 3, 9, 12] (fun a b s j wr => ∃ l u y k : Nat, k ≤ 9 ∧ j = .int .i64 k ∧ a = .int .i64 l ∧ b = .int .i64 u ∧ s = .int .i64 y ∧ l ≤ u ∧ u ≤ n ∧ Hid (y + lessW n ((lvs P).drop k) x l u = lessW n (lvs P) x lo hi) ∧ Below w.heap.size w wr) (fun _ _ _ j _ => 9 - (intOf j).toNat)
  case atStart => exact ⟨lo, hi, 0, 0, Nat.zero_le _, rfl, rfl, rfl, rfl, hlo, hi', Lib.hid (by rw [List.drop_zero]; omega), Below.refl _ _⟩
  case round =>
    obtain ⟨l, u, y, k, hk, rfl, rfl, rfl, rfl, hlu, hun, HV, hb⟩ := hrel
    have HB := Lib.hid hb
    clear hb
    have hy0 : y ≤ 1000 := by have := HV.out; have := HTop.out; omega
    by_cases hlt : k < 9
    · obtain ⟨p, hp⟩ : ∃ p, P[k]? = some p := ⟨P[k]'(by omega), List.getElem?_eq_getElem (by omega)⟩
      have hst := less_step HL.out (lvs_get hp) n x l u
      have CW := Lib.hid fun (W : World) => waveBit_any x k W (by omega) (by omega)
      have hb2 : x / 2 ^ (8 - k) % 2 < 2 := Nat.mod_lt _ (by omega)
      obtain ⟨b, hbb⟩ : ∃ b, x / 2 ^ (8 - k) % 2 = b := ⟨_, rfl⟩
      rw [hbb] at CW hb2 hst
      have hd1 := dn_le n p.L b u hb2 hun
      have hd2 := dn_mono n p.L b hlu
      have CD1 := Lib.hid fun (W : World) (hW : Below w.heap.size w W) => (down_any g (k * 3) n b l p W ((HM.out W hW).lev k p hp).1 ((HM.out W hW).lev k p hp).2 hb2 (by omega) hn).mono fun _ _ h => (⟨h.1, below_then hW h.2⟩ : _ ∧ Below w.heap.size w _)
      have CD2 := Lib.hid fun (W : World) (hW : Below w.heap.size w W) => (down_any g (k * 3) n b u p W ((HM.out W hW).lev k p hp).1 ((HM.out W hW).lev k p hp).2 hb2 hun hn).mono fun _ _ h => (⟨h.1, below_then hW h.2⟩ : _ ∧ Below w.heap.size w _)
      have CZ := Lib.hid fun (W : World) (hW : Below w.heap.size w W) => (zerosIn_any g (k * 3) n l u p W ((HM.out W hW).lev k p hp).1 ((HM.out W hW).lev k p hp).2 hlu hun hn).mono fun _ _ h => (⟨h.1, below_then hW h.2⟩ : _ ∧ Below w.heap.size w _)
      have hz0 : cnt p.L 0 u - cnt p.L 0 l ≤ 1000 := by have := cnt_le p.L 0 u; omega
      obtain ⟨z, hz⟩ : ∃ z, cnt p.L 0 u - cnt p.L 0 l = z := ⟨_, rfl⟩
      rw [hz] at CZ hst hz0
      obtain ⟨l2, hl2⟩ : ∃ d, dn n p.L b l = d := ⟨_, rfl⟩
      obtain ⟨u2, hu2⟩ : ∃ d, dn n p.L b u = d := ⟨_, rfl⟩
      rw [hl2] at CD1 hst hd2
      rw [hu2] at CD2 hst hd1 hd2
      have e1 : IntKind.i64.wrap ((y : Int) + (z : Int)) = (y : Int) + (z : Int) := IntWalk.i64_in _ (by omega)
      have HSt := Lib.hid hst
      have k9 : (k : Int) < 9 := by omega
      clear hst hbb hl2 hu2 hp hz
      have inv : Below w.heap.size w wr.drew := HB.out.drew
      rcases (show b = 0 ∨ b = 1 by omega) with rfl | rfl
      · have HV2 : Hid (y + lessW n ((lvs P).drop (k + 1)) x l2 u2 = lessW n (lvs P) x lo hi) := Lib.hid (by rw [← HV.out, HSt.out, if_neg (by omega)]; omega)
        clear HV HSt CZ
        go_wp2_with fail
        refine (CW.out _).mono ?_
        rintro e w1 ⟨rfl, rfl⟩
        go_wp2_with fail
        go_region_held3 (fun _ => True) (trivial) (first | (go_at_call 105; (with_reducible refine Calls.mono (CD1.out _ inv) ?_); rintro e w8 ⟨rfl, inv2⟩; replace inv := inv2; clear inv2) | (go_at_call 105; (with_reducible refine Calls.mono (CD2.out _ inv) ?_); rintro e w9 ⟨rfl, inv2⟩; replace inv := inv2; clear inv2))
        have HF := Lib.hid inv
        clear inv
        go_wp2
        go_roundw
        case rel => exact ⟨l2, u2, y, k + 1, by omega, by go_num, rfl, rfl, rfl, hd2, hd1, HV2, HF.out⟩
        case measure => simp [intOf]; omega
      · have HV2 : Hid (y + z + lessW n ((lvs P).drop (k + 1)) x l2 u2 = lessW n (lvs P) x lo hi) := Lib.hid (by rw [← HV.out, HSt.out, if_pos rfl]; omega)
        clear HV HSt inv
        go_wp2_with fail
        refine (CW.out _).mono ?_
        rintro e w1 ⟨rfl, rfl⟩
        go_wp2_with fail
        refine (CZ.out wr HB.out).mono ?_
        rintro e w2 ⟨rfl, hb2'⟩
        have inv : Below w.heap.size w w2.drew := hb2'.drew
        clear hb2'
        go_wp2_with fail
        go_region_held3 (fun _ => True) (trivial) (first | (go_at_call 105; (with_reducible refine Calls.mono (CD1.out _ inv) ?_); rintro e w8 ⟨rfl, inv2⟩; replace inv := inv2; clear inv2) | (go_at_call 105; (with_reducible refine Calls.mono (CD2.out _ inv) ?_); rintro e w9 ⟨rfl, inv2⟩; replace inv := inv2; clear inv2))
        have HF := Lib.hid inv
        clear inv
        go_wp2
        go_roundw
        case rel => exact ⟨l2, u2, y + z, k + 1, by omega, by go_num, rfl, rfl, by go_num, hd2, hd1, HV2, HF.out⟩
        case measure => simp [intOf]; omega
    · obtain rfl : k = 9 := by omega
      have HV2 : Hid (lessW n (lvs P) x lo hi = y) := Lib.hid (by rw [← HV.out, lv_end HL.out]; rfl)
      clear HV
      go_wp2
      go_ret
      exact ⟨ret_int (by rw [HV2.out]), HB.out⟩

set_option maxHeartbeats 3200000 in
theorem wkth_any (g n lo hi j : Nat) (P : List LvA) (w : World) (h : Mtx w g n P) (hj : lo + j < hi) (hi' : hi ≤ n) :
    Calls Try.prog 60 #[.pointer (some ⟨g, 0, none⟩), .int .i64 lo, .int .i64 hi, .int .i64 j] w fun e w' => e = .returned (.int .i64 (kthW n (lvs P) lo hi j)) ∧ Below w.heap.size w w' := by
  have HM := Lib.hid fun (W : World) (hW : Below w.heap.size w W) => h.below hW
  have hlen := h.len
  have hn := h.small
  have hl : (lvs P).length = 9 := by rw [lvs_len, hlen]
  have HL := Lib.hid hl
  have HTop : Hid (kthW n (lvs P) lo hi j < 512) := Lib.hid (kth_list hl lo hi j hj hi').1
  clear h hl
  go_enter Try.func60, Try.ntmps60
  go_wp2
  go_loopw [1, 2, 3, 9, 13] (fun a b t s i wr => ∃ l u q y k : Nat, k ≤ 9 ∧ i = .int .i64 k ∧ a = .int .i64 l ∧ b = .int .i64 u ∧ t = .int .i64 q ∧ s = .int .i64 y ∧ l + q < u ∧ u ≤ n ∧ y < 2 ^ k ∧ Hid (y * 2 ^ (9 - k) + kthW n ((lvs P).drop k) l u q = kthW n (lvs P) lo hi j) ∧ Below w.heap.size w wr) (fun _ _ _ _ i _ => 9 - (intOf i).toNat)
  case atStart => exact ⟨lo, hi, j, 0, 0, Nat.zero_le _, rfl, rfl, rfl, rfl, rfl, hj, hi', by decide, Lib.hid (by rw [List.drop_zero]; omega), Below.refl _ _⟩
  case round =>
    obtain ⟨l, u, q, y, k, hk, rfl, rfl, rfl, rfl, rfl, hq, hun, hy, HV, hb⟩ := hrel
    have HB := Lib.hid hb
    clear hb
    by_cases hlt : k < 9
    · obtain ⟨p, hp⟩ : ∃ p, P[k]? = some p := ⟨P[k]'(by omega), List.getElem?_eq_getElem (by omega)⟩
      have hst1 := kth_low HL.out (lvs_get hp) n y l u q
      have hst2 := kth_high HL.out (lvs_get hp) n y l u q
      have hlu : l ≤ u := by omega
      have CZ := Lib.hid fun (W : World) (hW : Below w.heap.size w W) => (zerosIn_any g (k * 3) n l u p W ((HM.out W hW).lev k p hp).1 ((HM.out W hW).lev k p hp).2 hlu hun hn).mono fun _ _ h => (⟨h.1, below_then hW h.2⟩ : _ ∧ Below w.heap.size w _)
      have CD := Lib.hid fun (b i : Nat) (hb : b < 2) (hi : i ≤ n) (W : World) (hW : Below w.heap.size w W) => (down_any g (k * 3) n b i p W ((HM.out W hW).lev k p hp).1 ((HM.out W hW).lev k p hp).2 hb hi hn).mono fun _ _ h => (⟨h.1, below_then hW h.2⟩ : _ ∧ Below w.heap.size w _)
      have hz0 : cnt p.L 0 u - cnt p.L 0 l ≤ 1000 := by have := cnt_le p.L 0 u; omega
      have m0 := cnt_mono' p.L 0 hlu
      have m1 := cnt_mono' p.L 1 hlu
      have hs := cnt_sum p.L l
      have hs' := cnt_sum p.L u
      have d0 : ∀ i, dn n p.L 0 i = cnt p.L 0 i := fun i => by unfold dn; rw [Nat.zero_mul, Nat.zero_add]; rfl
      have d1 : ∀ i, dn n p.L 1 i = cnt p.L 0 n + cnt p.L 1 i := fun i => by unfold dn; rw [Nat.one_mul]; rfl
      have q0 : q < cnt p.L 0 u - cnt p.L 0 l → dn n p.L 0 l + q < dn n p.L 0 u := by rw [d0, d0]; omega
      have q1 : ¬ q < cnt p.L 0 u - cnt p.L 0 l → dn n p.L 1 l + (q - (cnt p.L 0 u - cnt p.L 0 l)) < dn n p.L 1 u := by rw [d1, d1]; omega
      have b0 := dn_le n p.L 0 u (by omega) hun
      have b1 := dn_le n p.L 1 u (by omega) hun
      clear d0 d1 m0 m1 hs hs'
      obtain ⟨z, hz⟩ : ∃ z, cnt p.L 0 u - cnt p.L 0 l = z := ⟨_, rfl⟩
      rw [hz] at CZ hst1 hst2 hz0 q0 q1
      have hy9 : y < 512 := Nat.lt_of_lt_of_le hy (Nat.pow_le_pow_right (by omega) hk)
      have k9 : (k : Int) < 9 := by omega
      by_cases hqz : q < z
      · have t0 : decide ((z : Int) ≤ (q : Int)) = false := by simp; omega
        have CD1 := Lib.hid (CD.out 0 l (by omega) (by omega))
        have CD2 := Lib.hid (CD.out 0 u (by omega) hun)
        replace q0 := q0 hqz
        replace hst1 := hst1 hqz
        obtain ⟨l2, hl2⟩ : ∃ d, dn n p.L 0 l = d := ⟨_, rfl⟩
        obtain ⟨u2, hu2⟩ : ∃ d, dn n p.L 0 u = d := ⟨_, rfl⟩
        rw [hl2] at CD1 hst1 q0
        rw [hu2] at CD2 hst1 b0 q0
        have e1 : IntKind.i64.wrap (2 * (y : Int)) = 2 * (y : Int) := IntWalk.i64_in _ (by omega)
        have HYn : Hid (2 * y < 2 ^ (k + 1)) := Lib.hid (by rw [Nat.pow_succ]; omega)
        have HV2 : Hid (2 * y * 2 ^ (9 - (k + 1)) + kthW n ((lvs P).drop (k + 1)) l2 u2 q = kthW n (lvs P) lo hi j) := Lib.hid (by rw [← HV.out, hst1, show 9 - (k + 1) = 8 - k by omega]; rfl)
        clear hst1 hst2 HV hl2 hu2 hp hz q1 b1 CD hy
        go_wp2_with fail
        refine (CZ.out wr HB.out).mono ?_
        rintro e w2 ⟨rfl, hb2'⟩
        have inv : Below w.heap.size w w2.drew := hb2'.drew
        clear hb2'
        go_wp2_with fail
        go_region_held3 (fun _ => True) (trivial) (first | (go_at_call 105; (with_reducible refine Calls.mono (CD1.out _ inv) ?_); rintro e w8 ⟨rfl, inv2⟩; replace inv := inv2; clear inv2) | (go_at_call 105; (with_reducible refine Calls.mono (CD2.out _ inv) ?_); rintro e w9 ⟨rfl, inv2⟩; replace inv := inv2; clear inv2))
        have HF := Lib.hid inv
        clear inv
        go_wp2
        go_roundw
        case rel => exact ⟨l2, u2, q, 2 * y, k + 1, by omega, by go_num, rfl, rfl, rfl, by go_num, q0, b0, HYn.out, HV2, HF.out⟩
        case measure => simp [intOf]; omega
      · have t0 : decide ((z : Int) ≤ (q : Int)) = true := by simp; omega
        have CD1 := Lib.hid (CD.out 1 l (by omega) (by omega))
        have CD2 := Lib.hid (CD.out 1 u (by omega) hun)
        replace q1 := q1 hqz
        replace hst2 := hst2 hqz
        obtain ⟨l2, hl2⟩ : ∃ d, dn n p.L 1 l = d := ⟨_, rfl⟩
        obtain ⟨u2, hu2⟩ : ∃ d, dn n p.L 1 u = d := ⟨_, rfl⟩
        rw [hl2] at CD1 hst2 q1
        rw [hu2] at CD2 hst2 b1 q1
        have e1 : IntKind.i64.wrap (2 * (y : Int)) = 2 * (y : Int) := IntWalk.i64_in _ (by omega)
        have e2 : IntKind.i64.wrap (2 * (y : Int) + 1) = 2 * (y : Int) + 1 := IntWalk.i64_in _ (by omega)
        obtain ⟨q2, hq2⟩ : ∃ q2, q - z = q2 := ⟨_, rfl⟩
        have e3 : IntKind.i64.wrap ((q : Int) - (z : Int)) = (q2 : Int) := by rw [IntWalk.i64_in _ (by omega)]; omega
        have e4 : (q : Int) - (z : Int) = (q2 : Int) := by omega
        rw [hq2] at hst2 q1
        have HYn : Hid (2 * y + 1 < 2 ^ (k + 1)) := Lib.hid (by rw [Nat.pow_succ]; omega)
        have HV2 : Hid ((2 * y + 1) * 2 ^ (9 - (k + 1)) + kthW n ((lvs P).drop (k + 1)) l2 u2 q2 = kthW n (lvs P) lo hi j) := Lib.hid (by rw [← HV.out, hst2, show 9 - (k + 1) = 8 - k by omega])
        clear hst1 hst2 HV hl2 hu2 hp hz q0 b0 CD hy hq2
        go_wp2_with fail
        refine (CZ.out wr HB.out).mono ?_
        rintro e w2 ⟨rfl, hb2'⟩
        have inv : Below w.heap.size w w2.drew := hb2'.drew
        clear hb2'
        go_wp2_with fail
        go_region_held3 (fun _ => True) (trivial) (first | (go_at_call 105; (with_reducible refine Calls.mono (CD1.out _ inv) ?_); rintro e w8 ⟨rfl, inv2⟩; replace inv := inv2; clear inv2) | (go_at_call 105; (with_reducible refine Calls.mono (CD2.out _ inv) ?_); rintro e w9 ⟨rfl, inv2⟩; replace inv := inv2; clear inv2))
        have HF := Lib.hid inv
        clear inv
        go_wp2
        go_roundw
        case rel => exact ⟨l2, u2, q2, 2 * y + 1, k + 1, by omega, by go_num, rfl, rfl, rfl, by go_num, q1, b1, HYn.out, HV2, HF.out⟩
        case measure => simp [intOf]; omega
    · obtain rfl : k = 9 := by omega
      have HV2 : Hid (kthW n (lvs P) lo hi j = y) := Lib.hid (by rw [← HV.out, lv_end HL.out]; simp [kthW])
      clear HV
      go_wp2
      go_ret
      exact ⟨ret_int (by rw [HV2.out]), HB.out⟩

end Go.Proofs.Ytoehgcakfblblaa
