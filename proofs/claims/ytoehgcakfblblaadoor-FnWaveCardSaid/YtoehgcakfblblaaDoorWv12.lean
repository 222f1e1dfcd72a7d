/- The way back through the nine levels. -/
import Derived.Test.YtoehgcakfblblaaDoorWv2
import Derived.Test.YtoehgcakfblblaaDoorSel6
import Derived.Test.YtoehgcakfblblaaDoorWvSelM
namespace Go.Proofs.YtoehgcakfblblaaDoor
open Go.RowKit
set_option maxRecDepth 100000

theorem sel_val (n : Nat) (L : List Nat) (b j : Nat) (hb : b < 2) (hn : okB n L = true) (hj : j < n) (hbit : bitN L j = b) : selV n L (b : Int) (cnt L (b : Int) j : Int) = j := by
  unfold selV
  rw [if_pos ⟨hn, by omega, by omega⟩, Int.toNat_natCast, Int.toNat_natCast, selN_some L (b : Int) n _ j hj (by rw [hbit]) rfl]

set_option maxHeartbeats 1600000 in
theorem up_any (g o n b j : Nat) (p : LvA) (w : World) (h : LvAt w g o n p) (hp : LvOk w n p) (hb : b < 2) (hj : j < n) (hbit : bitN p.L j = b) (hn : n ≤ 1000) (hT : Tab w) :
    Calls Tryd.prog 44 #[.pointer (some ⟨g, o, none⟩), .int .i64 b, .int .i64 (dn n p.L b j)] w fun e w' => e = .returned (.int .i64 j) ∧ Below w.heap.size w w' := by
  obtain ⟨z, hz⟩ : ∃ z, cnt p.L 0 n = z := ⟨_, rfl⟩
  have hzn : z ≤ n := by rw [← hz]; exact cnt_le _ _ _
  have hri : cnt p.L (b : Int) j ≤ j := cnt_le _ _ _
  have hD : dn n p.L b j = b * z + cnt p.L (b : Int) j := by unfold dn; rw [hz]
  have CR := Lib.hid fun (W : World) (hW : Below w.heap.size w W) => implSel_any (n : Int) p.A p.c p.L (b : Int) (cnt p.L (b : Int) j : Int) W (hp.lies.below hW) hp.word (by omega) (hT.below hW)
  rw [sel_val n p.L b j hb hp.ok hj hbit] at CR
  rw [hD]
  obtain ⟨r, hr⟩ : ∃ r, cnt p.L (b : Int) j = r := ⟨_, rfl⟩
  rw [hr] at hri CR
  rw [hr]
  have HL := Lib.hid fun (W : World) (hW : Below w.heap.size w W) => h.below hW
  obtain ⟨c0, c1, c2, hl⟩ := h
  unfold LvA.body at c1
  rw [hz] at c2
  obtain ⟨m, hm⟩ : ∃ m, b * z = m := ⟨_, rfl⟩
  have hm1 : m ≤ 1000 := by
    rcases (show b = 0 ∨ b = 1 by omega) with rfl | rfl <;> omega
  rw [hm]
  obtain ⟨q, hq⟩ : ∃ q, m + r = q := ⟨_, rfl⟩
  rw [hq]
  have e1 : IntKind.i64.wrap ((b : Int) * (z : Int)) = (m : Int) := by rw [show (b : Int) * (z : Int) = (m : Int) by rw [← hm]; simp]; exact IntWalk.i64_in _ (by omega)
  have e2 : (b : Int) * (z : Int) = (m : Int) := by rw [← hm]; simp
  have e3 : IntKind.i64.wrap ((q : Int) - (m : Int)) = (r : Int) := by rw [IntWalk.i64_in _ (by omega)]; omega
  have e4 : (q : Int) - (m : Int) = (r : Int) := by omega
  have e5 : IntKind.i64.wrap (m : Int) = (m : Int) := IntWalk.i64_in _ (by omega)
  have e6 : IntKind.i64.wrap (r : Int) = (r : Int) := IntWalk.i64_in _ (by omega)
  have e7 : IntKind.i64.wrap ((q : Int) - IntKind.i64.wrap (m : Int)) = (r : Int) := by rw [e5, e3]
  have HB := Lib.hid (Below.refl w.heap.size w)
  have HZ := Lib.hid hz
  clear hz hr hp hm hT hD hbit hq
  go_enter Tryd.func44, Tryd.ntmps44
  go_wp2
  go_region_held3 (fun w' => w'.cell? ⟨g, o, none⟩ = some (.int .i64 n) ∧ w'.cell? ⟨g, o + 1, none⟩ = some (.slice p.A p.L.length p.c) ∧ w'.cell? ⟨g, o + 2, none⟩ = some (.int .i64 z)) (first | (go_keep; done) | (refine ⟨?_, ?_, ?_⟩ <;> assumption)) (first | (go_at_call 51; refine Calls.mono (CR.out _ (HB.out.drew)) ?_; rintro e w5 ⟨rfl, hb5⟩; have HB5 := Lib.hid (below_then HB.out.drew hb5); clear hb5; obtain ⟨d0, d1, d2, _⟩ := HL.out _ HB5.out; unfold LvA.body at d1; rw [HZ.out] at d2))
  all_goals go_wp2
  all_goals go_ret
  all_goals exact ⟨rfl, HB5.out⟩

set_option maxHeartbeats 1600000 in
theorem windex_any (g n x q : Nat) (J : Nat → Nat) (P : List LvA) (w : World) (h : Mtx w g n P) (hx : x < 512) (hJ9 : J 9 = q) (hJn : ∀ j, J j < n) (hJ : ∀ j L, (lvs P)[j]? = some L → bitN L (J j) = x / 2 ^ (8 - j) % 2 ∧ J (j + 1) = dn n L (x / 2 ^ (8 - j) % 2) (J j)) (hT : Tab w) :
    Calls Tryd.prog 31 #[.pointer (some ⟨g, 0, none⟩), .int .i64 x, .int .i64 q] w fun e w' => e = .returned (.int .i64 (J 0)) ∧ Below w.heap.size w w' := by
  have HM := Lib.hid fun (W : World) (hW : Below w.heap.size w W) => h.below hW
  have HT := Lib.hid fun (W : World) (hW : Below w.heap.size w W) => hT.below hW
  have hlen := h.len
  have hn := h.small
  have HJ := Lib.hid hJ
  have HJn := Lib.hid hJn
  have H9 := Lib.hid hJ9
  clear h hT hJ hJn hJ9
  go_enter Tryd.func31, Tryd.ntmps31
  go_wp2
  go_loopw [2, 7] (fun q j wr => ∃ m k : Nat, k ≤ 9 ∧ j = .int .i64 ((k : Int) - 1) ∧ q = .int .i64 m ∧ Hid (m = J k) ∧ Below w.heap.size w wr) (fun _ j _ => ((intOf j) + 1).toNat)
  case atStart => exact ⟨q, 9, Nat.le_refl _, rfl, rfl, Lib.hid H9.out.symm, Below.refl _ _⟩
  case round =>
    obtain ⟨m, k, hk, rfl, rfl, HV, hb⟩ := hrel
    have HB := Lib.hid hb
    clear hb
    by_cases hlt : 0 < k
    · obtain ⟨t, rfl⟩ : ∃ t, k = t + 1 := ⟨k - 1, by omega⟩
      have ht : ((t + 1 : Nat) : Int) - 1 = (t : Int) := by omega
      rw [ht]
      obtain ⟨p, hp⟩ : ∃ p, P[t]? = some p := ⟨P[t]'(by omega), List.getElem?_eq_getElem (by omega)⟩
      obtain ⟨hb1, hb2⟩ := HJ.out t p.L (lvs_get hp)
      have CW := Lib.hid fun (W : World) => waveBit_any x t W (by omega) (by omega)
      have hb3 : x / 2 ^ (8 - t) % 2 < 2 := Nat.mod_lt _ (by omega)
      obtain ⟨b, hbb⟩ : ∃ b, x / 2 ^ (8 - t) % 2 = b := ⟨_, rfl⟩
      rw [hbb] at CW hb3 hb1 hb2
      have CD := Lib.hid fun (W : World) (hW : Below w.heap.size w W) => (up_any g (t * 3) n b (J t) p W ((HM.out W hW).lev t p hp).1 ((HM.out W hW).lev t p hp).2 hb3 (HJn.out t) hb1 hn (HT.out W hW)).mono fun _ _ h => (⟨h.1, below_then hW h.2⟩ : _ ∧ Below w.heap.size w _)
      rw [← hb2, ← HV.out] at CD
      obtain ⟨d, hd⟩ : ∃ d, J t = d := ⟨_, rfl⟩
      rw [hd] at CD
      have HV2 := Lib.hid hd.symm
      have k9 : (t : Int) < 9 := by omega
      have e1 : IntKind.i64.wrap ((t : Int) - 1) = (t : Int) - 1 := IntWalk.i64_in _ (by omega)
      clear hb1 hb2 hbb hd HV hp ht
      have inv : Below w.heap.size w wr.drew := HB.out.drew
      go_wp2_with fail
      go_region_held3 (fun _ => True) (trivial) (first | (go_at_call 35; (with_reducible refine Calls.mono (CW.out _) ?_); rintro e w8 ⟨rfl, rfl⟩) | (go_at_call 44; (with_reducible refine Calls.mono (CD.out _ inv) ?_); rintro e w8 ⟨rfl, inv2⟩; replace inv := inv2; clear inv2))
      have HF := Lib.hid inv
      clear inv
      go_wp2
      go_roundw
      case rel => exact ⟨d, t, by omega, rfl, rfl, HV2, HF.out⟩
      case measure => simp [intOf]
    · obtain rfl : k = 0 := by omega
      have HV2 : Hid (J 0 = m) := Lib.hid HV.out.symm
      clear HV
      go_wp2
      go_ret
      exact ⟨ret_int (by rw [HV2.out]), HB.out⟩

end Go.Proofs.YtoehgcakfblblaaDoor
