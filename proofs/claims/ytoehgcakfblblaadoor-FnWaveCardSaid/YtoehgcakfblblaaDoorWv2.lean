/- The methods of the nine levels: the number at an index, the place of a number, how many are less, the k-th smallest. -/
import Derived.Test.YtoehgcakfblblaaDoorWv1
import Derived.Test.YtoehgcakfblblaaDoorWvMath3
import Derived.Test.YtoehgcakfblblaaDoorAt2
namespace Go.Proofs.YtoehgcakfblblaaDoor
open Go.RowKit
set_option maxRecDepth 100000

/-- The words of the levels. -/
def lvs (P : List LvA) : List (List Nat) := P.map LvA.L
theorem lvs_len (P : List LvA) : (lvs P).length = P.length := by simp [lvs]
theorem lvs_get {P : List LvA} {k : Nat} {p : LvA} (h : P[k]? = some p) : (lvs P)[k]? = some p.L := by simp [lvs, h]

/-- A matrix lies in block g. -/
structure Mtx (w : World) (g n : Nat) (P : List LvA) : Prop where
  len : P.length = 9
  lev : ∀ k p, P[k]? = some p → LvAt w g (k * 3) n p ∧ LvOk w n p
  top : w.cell? ⟨g, 27, none⟩ = some (.int .i64 n)
  lt : g < w.heap.size
  small : n ≤ 1000
theorem Mtx.below {w w' : World} {g n : Nat} {P : List LvA} (h : Mtx w g n P) (hb : Below w.heap.size w w') : Mtx w' g n P :=
  ⟨h.len, fun k p hp => ⟨(h.lev k p hp).1.below hb, (h.lev k p hp).2.below hb⟩, (hb.cell (p := ⟨g, 27, none⟩) h.lt).trans h.top, Nat.lt_of_lt_of_le h.lt hb.size, h.small⟩

set_option maxHeartbeats 1600000 in
theorem number_any (g n i : Nat) (P : List LvA) (w : World) (h : Mtx w g n P) (hi : i < n) :
    Calls Tryd.prog 28 #[.pointer (some ⟨g, 0, none⟩), .int .i64 i] w fun e w' => e = .returned (.int .i64 (numW n (lvs P) i)) ∧ Below w.heap.size w w' := by
  have HM := Lib.hid fun (W : World) (hW : Below w.heap.size w W) => h.below hW
  have hlen := h.len
  have hn := h.small
  have hl : (lvs P).length = 9 := by rw [lvs_len, hlen]
  have HL := Lib.hid hl
  clear h hl
  go_enter Tryd.func28, Tryd.ntmps28
  go_wp2
  go_loopw [1, 5, 8] (fun q x j wr => ∃ m y k : Nat, k ≤ 9 ∧ j = .int .i64 k ∧ q = .int .i64 m ∧ x = .int .i64 y ∧ m < n ∧ y < 2 ^ k ∧ Hid (y * 2 ^ (9 - k) + numW n ((lvs P).drop k) m = numW n (lvs P) i) ∧ Below w.heap.size w wr) (fun _ _ j _ => 9 - (intOf j).toNat)
  case atStart => exact ⟨i, 0, 0, Nat.zero_le _, rfl, rfl, rfl, hi, by decide, Lib.hid (by rw [List.drop_zero]; omega), Below.refl _ _⟩
  case round =>
    obtain ⟨m, y, k, hk, rfl, rfl, rfl, hm, hy, HV, hb⟩ := hrel
    have HB := Lib.hid hb
    clear hb
    by_cases hlt : k < 9
    · obtain ⟨p, hp⟩ : ∃ p, P[k]? = some p := ⟨P[k]'(by omega), List.getElem?_eq_getElem (by omega)⟩
      have hst := num_step HL.out (lvs_get hp) n y m
      have hat := ((HM.out _ HB.out).lev k p hp).1
      have hc0 := hat.c0
      have hc1 := hat.c1
      have hgl := hat.lt
      unfold LvA.body at hc1
      have CA := Lib.hid fun (W : World) (hW : Below w.heap.size w W) => (implAt_any (n : Int) p.A p.c p.L (m : Int) W ((HM.out W hW).lev k p hp).2.lies ((HM.out W hW).lev k p hp).2.word).mono fun _ _ h => (⟨h.1, below_then hW h.2⟩ : _ ∧ Below w.heap.size w _)
      have hbv : bitAtV n p.L m = (bitN p.L m : Int) := by
        unfold bitAtV
        rw [if_pos ⟨((HM.out _ HB.out).lev k p hp).2.ok, by omega, by omega⟩, Int.toNat_natCast]
      rw [hbv] at CA
      have hb2 := bitN_lt p.L m
      have hdl := dn_lt n p.L m hm
      have CD := Lib.hid fun (W : World) (hW : Below w.heap.size w W) => (down_any g (k * 3) n (bitN p.L m) m p W ((HM.out W hW).lev k p hp).1 ((HM.out W hW).lev k p hp).2 hb2 (by omega) hn).mono fun _ _ h => (⟨h.1, below_then hW h.2⟩ : _ ∧ Below w.heap.size w _)
      obtain ⟨b, hbb⟩ : ∃ b, bitN p.L m = b := ⟨_, rfl⟩
      rw [hbb] at CA CD hb2 hst hdl
      obtain ⟨d, hd⟩ : ∃ d, dn n p.L b m = d := ⟨_, rfl⟩
      rw [hd] at CD hst hdl
      have hy9 : y < 512 := Nat.lt_of_lt_of_le hy (Nat.pow_le_pow_right (by omega) hk)
      have hyn : 2 * y + b < 2 ^ (k + 1) := by rw [Nat.pow_succ]; omega
      obtain ⟨y2, hy2⟩ : ∃ y2, 2 * y + b = y2 := ⟨_, rfl⟩
      rw [hy2] at hst hyn
      have HV2 : Hid (y2 * 2 ^ (9 - (k + 1)) + numW n ((lvs P).drop (k + 1)) d = numW n (lvs P) i) := Lib.hid (by rw [← HV.out, hst, show 9 - (k + 1) = 8 - k by omega])
      have e1 : IntKind.i64.wrap (2 * (y : Int)) = 2 * (y : Int) := IntWalk.i64_in _ (by omega)
      have e2 : IntKind.i64.wrap (2 * (y : Int) + (b : Int)) = (y2 : Int) := by rw [IntWalk.i64_in _ (by omega)]; omega
      have e3 : 2 * (y : Int) + (b : Int) = (y2 : Int) := by omega
      have HYn := Lib.hid hyn
      have k9 : (k : Int) < 9 := by omega
      clear hst hbv hbb hd hy2 HV hat hp hyn hy
      go_wp2_with fail
      refine (CA.out wr HB.out).mono ?_
      rintro e w1 ⟨rfl, hb1⟩
      have HB1 := Lib.hid hb1
      clear hb1
      go_wp2_with fail
      refine (CD.out w1 HB1.out).mono ?_
      rintro e w2 ⟨rfl, hb2'⟩
      have HB2 := Lib.hid hb2'
      clear hb2'
      go_wp2
      go_roundw
      case rel => exact ⟨d, y2, k + 1, by omega, by go_num, rfl, rfl, hdl, HYn.out, HV2, HB2.out⟩
      case measure => simp [intOf]; omega
    · obtain rfl : k = 9 := by omega
      have HV2 : Hid (numW n (lvs P) i = y) := Lib.hid (by rw [← HV.out, lv_end HL.out]; simp [numW])
      clear HV
      go_wp2
      go_ret
      exact ⟨ret_int (by rw [HV2.out]), HB.out⟩

set_option maxHeartbeats 1600000 in
theorem place_any (g n x i : Nat) (P : List LvA) (w : World) (h : Mtx w g n P) (hx : x < 512) (hi : i ≤ n) :
    Calls Tryd.prog 30 #[.pointer (some ⟨g, 0, none⟩), .int .i64 x, .int .i64 i] w fun e w' => e = .returned (.int .i64 (plW n (lvs P) x i)) ∧ Below w.heap.size w w' := by
  have HM := Lib.hid fun (W : World) (hW : Below w.heap.size w W) => h.below hW
  have hlen := h.len
  have hn := h.small
  have hl : (lvs P).length = 9 := by rw [lvs_len, hlen]
  have HL := Lib.hid hl
  clear h hl
  go_enter Tryd.func30, Tryd.ntmps30
  go_wp2
  go_loopw [2, 8] (fun q j wr => ∃ m k : Nat, k ≤ 9 ∧ j = .int .i64 k ∧ q = .int .i64 m ∧ m ≤ n ∧ Hid (plW n ((lvs P).drop k) x m = plW n (lvs P) x i) ∧ Below w.heap.size w wr) (fun _ j _ => 9 - (intOf j).toNat)
  case atStart => exact ⟨i, 0, Nat.zero_le _, rfl, rfl, hi, Lib.hid (by rw [List.drop_zero]), Below.refl _ _⟩
  case round =>
    obtain ⟨m, k, hk, rfl, rfl, hm, HV, hb⟩ := hrel
    have HB := Lib.hid hb
    clear hb
    by_cases hlt : k < 9
    · obtain ⟨p, hp⟩ : ∃ p, P[k]? = some p := ⟨P[k]'(by omega), List.getElem?_eq_getElem (by omega)⟩
      have hst := place_step HL.out (lvs_get hp) n x m
      have CW := Lib.hid fun (W : World) => waveBit_any x k W (by omega) (by omega)
      have hb2 : x / 2 ^ (8 - k) % 2 < 2 := Nat.mod_lt _ (by omega)
      obtain ⟨b, hbb⟩ : ∃ b, x / 2 ^ (8 - k) % 2 = b := ⟨_, rfl⟩
      rw [hbb] at CW hb2 hst
      have hdl := dn_le n p.L b m hb2 hm
      have CD := Lib.hid fun (W : World) (hW : Below w.heap.size w W) => (down_any g (k * 3) n b m p W ((HM.out W hW).lev k p hp).1 ((HM.out W hW).lev k p hp).2 hb2 hm hn).mono fun _ _ h => (⟨h.1, below_then hW h.2⟩ : _ ∧ Below w.heap.size w _)
      obtain ⟨d, hd⟩ : ∃ d, dn n p.L b m = d := ⟨_, rfl⟩
      rw [hd] at CD hst hdl
      have HV2 : Hid (plW n ((lvs P).drop (k + 1)) x d = plW n (lvs P) x i) := Lib.hid (by rw [← HV.out, hst])
      have k9 : (k : Int) < 9 := by omega
      clear hst hbb hd HV hp
      have inv : Below w.heap.size w wr.drew := HB.out.drew
      go_wp2_with fail
      go_region_held3 (fun _ => True) (trivial) (first | (go_at_call 35; (with_reducible refine Calls.mono (CW.out _) ?_); rintro e w8 ⟨rfl, rfl⟩) | (go_at_call 43; (with_reducible refine Calls.mono (CD.out _ inv) ?_); rintro e w8 ⟨rfl, inv2⟩; replace inv := inv2; clear inv2))
      have HF := Lib.hid inv
      clear inv
      go_wp2
      go_roundw
      case rel => exact ⟨d, k + 1, by omega, by go_num, rfl, hdl, HV2, HF.out⟩
      case measure => simp [intOf]; omega
    · obtain rfl : k = 9 := by omega
      have HV2 : Hid (plW n (lvs P) x i = m) := Lib.hid (by rw [← HV.out, lv_end HL.out]; rfl)
      clear HV
      go_wp2
      go_ret
      exact ⟨ret_int (by rw [HV2.out]), HB.out⟩

end Go.Proofs.YtoehgcakfblblaaDoor
