/- VarRead: what it is to return, and the program's. -/
import Derived.Test.YtlbnngolcoefdaaDoorField8
import Derived.Test.YtlbnngolcoefdaaDoorVar1
namespace Go.Proofs.YtlbnngolcoefdaaDoor
open Go.RowKit
set_option maxRecDepth 100000

/-- The number of a list of bytes, the least first. -/
def bnum : List Nat → Nat
  | [] => 0
  | x :: r => x + 256 * bnum r
theorem bnum_get : ∀ (C : List Nat) (_ : ∀ x ∈ C, x < 2 ^ 8) (j x : Nat), C[j]? = some x → x = bnum C / 2 ^ (8 * j) % 2 ^ 8
  | [], _, j, x, h => by simp at h
  | y :: r, hC, 0, x, h => by
    obtain rfl : y = x := by simpa using h
    have := hC y (by simp)
    rw [bnum, Nat.mul_zero, Nat.pow_zero, Nat.div_one]
    omega
  | y :: r, hC, j + 1, x, h => by
    have ih := bnum_get r (fun z hz => hC z (by simp [hz])) j x (by simpa using h)
    have hy := hC y (by simp)
    rw [bnum, show 8 * (j + 1) = 8 + 8 * j by omega, Nat.pow_add, ← Nat.div_div_eq_div_mul, show (y + 256 * bnum r) / 2 ^ 8 = bnum r by omega]
    exact ih
theorem field_seven (V k x : Nat) (h : x = V / 2 ^ (8 * k) % 2 ^ 8) : V / 2 ^ (8 * k) % 2 ^ 7 = x % 128 := by omega
theorem field_top (V k x : Nat) (h : x = V / 2 ^ (8 * k) % 2 ^ 8) : V / 2 ^ (8 * k + 7) % 2 ^ 1 = x / 128 := by
  rw [Nat.pow_add, ← Nat.div_div_eq_div_mul]
  omega

/-- Reading on: at most f bytes more, k are read, n is their number. -/
def rdF : Nat → Nat → Nat → List Nat → Option (Nat × Nat)
  | 0, _, _, _ => none
  | _ + 1, _, _, [] => none
  | f + 1, k, n, x :: r => if 128 ≤ x then rdF f (k + 1) (n + x % 128 * 128 ^ k) r else if (x = 0 ∧ 0 < k) ∨ 4294967295 < n + x % 128 * 128 ^ k then none else some (n + x % 128 * 128 ^ k, k + 1)
/-- What VarRead is to return. -/
def vrV (D : List Nat) (a : Int) : Int × Int × Bool :=
  if 0 ≤ a ∧ a < D.length then (match rdF 5 0 0 (D.drop a.toNat) with | some (n, k) => ((n : Int), a + (k : Int), true) | none => (0, 0, false)) else (0, 0, false)
/-- How VarRead ends. -/
def VrEnd (D : List Nat) (a : Int) (e : Ending) : Prop := e = .returned (.tuple #[.int .i64 (vrV D a).1, .int .i64 (vrV D a).2.1, .bool (vrV D a).2.2])

theorem vr_out {D : List Nat} {a : Int} (h : ¬ (0 ≤ a ∧ a < D.length)) : VrEnd D a (.returned (.tuple #[.int .i64 0, .int .i64 0, .bool false])) := by
  unfold VrEnd vrV
  rw [if_neg h]
theorem vr_none {D : List Nat} {a : Nat} (h : a < D.length) (hr : rdF 5 0 0 (D.drop a) = none) : VrEnd D a (.returned (.tuple #[.int .i64 0, .int .i64 0, .bool false])) := by
  unfold VrEnd vrV
  rw [if_pos (by omega), Int.toNat_natCast, hr]
theorem vr_some {D : List Nat} {a n k : Nat} (h : a < D.length) (hr : rdF 5 0 0 (D.drop a) = some (n, k)) : VrEnd D a (.returned (.tuple #[.int .i64 n, .int .i64 ((a : Int) + (k : Int)), .bool true])) := by
  unfold VrEnd vrV
  rw [if_pos (by omega), Int.toNat_natCast, hr]

theorem rd_step {C : List Nat} {f k n x : Nat} (hx : C[k]? = some x) : rdF (f + 1) k n (C.drop k) = if 128 ≤ x then rdF f (k + 1) (n + x % 128 * 128 ^ k) (C.drop (k + 1)) else if (x = 0 ∧ 0 < k) ∨ 4294967295 < n + x % 128 * 128 ^ k then none else some (n + x % 128 * 128 ^ k, k + 1) := by
  obtain ⟨hk, hx⟩ := List.getElem?_eq_some_iff.1 hx
  rw [List.drop_eq_getElem_cons hk, hx, rdF]
theorem rd_over {C : List Nat} {f k n : Nat} (hk : C.length ≤ k) : rdF f k n (C.drop k) = none := by
  rw [List.drop_of_length_le hk]
  cases f <;> rfl

theorem pow_le5 {k : Nat} (h : k ≤ 5) : 128 ^ k ≤ 34359738368 := Nat.le_trans (Nat.pow_le_pow_right (by omega) h) (by decide)
theorem rd_lt {n x k : Nat} (h : n < 128 ^ k) : n + x % 128 * 128 ^ k < 128 ^ (k + 1) := by
  have h1 : x % 128 + 1 ≤ 128 := Nat.mod_lt _ (by decide)
  have h2 := Nat.mul_le_mul_right (128 ^ k) h1
  rw [Nat.succ_mul] at h2
  rw [Nat.pow_succ]
  omega
/-- How the walk spells the round's or. -/
theorem rd_form (n d k : Nat) (hn : n < 128 ^ k) (hd : d < 128) (hk : k < 5) : bits .or .i64 (n : Int) (wrap64 ((d : Int) * 2 ^ (7 * k))) = ((n + d * 128 ^ k : Nat) : Int) := by
  have hp := pow_le5 (show k + 1 ≤ 5 by omega)
  have e128 : (128 : Nat) ^ k = 2 ^ (7 * k) := by rw [Nat.pow_mul]
  have h1 : n + d * 128 ^ k < 128 ^ (k + 1) := by
    have := rd_lt (x := d) hn
    rwa [Nat.mod_eq_of_lt hd] at this
  have e : (d : Int) * 2 ^ (7 * k) = ((d * 128 ^ k : Nat) : Int) := by rw [e128]; simp
  have hw : wrap64 ((d : Int) * 2 ^ (7 * k)) = ((d * 128 ^ k : Nat) : Int) := by rw [e]; exact IntWalk.wrap64_in _ (by omega)
  rw [hw]
  have h2 : n ||| d * 128 ^ k = n + d * 128 ^ k := by
    rw [Nat.or_comm, nat_or_add (7 * k) _ _ (by rw [← e128]; exact Nat.mul_mod_left _ _) (by rw [← e128]; exact hn), Nat.add_comm]
  generalize d * 128 ^ k = y at *
  have e1 : (BitVec.ofInt 64 (n : Int)).toNat = n := by rw [BitVec.ofInt_natCast, BitVec.toNat_ofNat]; exact Nat.mod_eq_of_lt (by omega)
  have e2 : (BitVec.ofInt 64 (y : Int)).toNat = y := by rw [BitVec.ofInt_natCast, BitVec.toNat_ofNat]; exact Nat.mod_eq_of_lt (by omega)
  show IntKind.i64.wrap ((BitVec.ofInt 64 (n : Int) ||| BitVec.ofInt 64 (y : Int)).toNat : Int) = _
  rw [BitVec.toNat_or, e1, e2, h2]
  exact IntWalk.i64_in _ (by omega)

set_option maxHeartbeats 400000 in
theorem implVarRd_out (A : Option Addr) (n c : Nat) (a : Int) (w : World) (h : a < 0 ∨ (n : Int) ≤ a) :
    Calls Tryd.prog 129 #[.slice A n c, .int .i64 a] w fun e w' => e = .returned (.tuple #[.int .i64 0, .int .i64 0, .bool false]) ∧ w = w' := by
  by_cases h0 : a < 0
  · have d0 : decide (a < 0) = true := by simpa using h0
    go_enter Tryd.func129, Tryd.ntmps129
    go_wp2
    go_ret3
    exact ⟨rfl, rfl⟩
  · have d0 : decide (a < 0) = false := by simpa using h0
    have h1 : (n : Int) ≤ a := by omega
    have d1 : decide ((n : Int) ≤ a) = true := by simpa using h1
    go_enter Tryd.func129, Tryd.ntmps129
    go_wp2
    go_ret3
    exact ⟨rfl, rfl⟩

set_option maxRecDepth 100000 in
set_option maxHeartbeats 800000 in
theorem implVarRd_in (A : Option Addr) (n c : Nat) (D : List Nat) (a : Nat) (w : World) (hD : Lies w B8 A D) (Hn : Hid (D.length = n)) (hw : ∀ x ∈ D, x < 2 ^ 8) (ha : a < n) (hnc : n ≤ c) (hcm : c ≤ 9223372036854775807) (hn : n ≤ 17592186044416) :
    Calls Tryd.prog 129 #[.slice A n c, .int .i64 a] w fun e w' => VrEnd D a e ∧ Drawn w w' := by
  have d0 : decide ((a : Int) < 0) = false := by simp
  have d1 : decide ((n : Int) ≤ (a : Int)) = false := by simp; omega
  obtain ⟨b, o, _, rfl, _⟩ := hD.at_ (i := a) (by rw [Hn.out]; exact ha)
  have hC : Lies w B8 (some ⟨b, o + a, none⟩) (D.drop a) := by
    have h := hD.piece a (D.length - a)
    rwa [List.take_of_length_le (by rw [List.length_drop]; omega)] at h
  have hCl : (D.drop a).length = n - a := by rw [List.length_drop, Hn.out]
  have hCw : ∀ x ∈ D.drop a, x < 2 ^ 8 := fun x hx => hw x (List.mem_of_mem_drop hx)
  have HE : Hid ((rdF 5 0 0 (D.drop a) = none → VrEnd D a (.returned (.tuple #[.int .i64 0, .int .i64 0, .bool false]))) ∧ (∀ m k, rdF 5 0 0 (D.drop a) = some (m, k) → VrEnd D a (.returned (.tuple #[.int .i64 m, .int .i64 ((a : Int) + (k : Int)), .bool true])))) :=
    Lib.hid ⟨vr_none (by rw [Hn.out]; exact ha), fun m k => vr_some (by rw [Hn.out]; exact ha)⟩
  generalize D.drop a = C at *
  have d1n : decide (n ≤ a) = false := by simp; omega
  obtain ⟨l, hl⟩ : ∃ l, n - a = l := ⟨_, rfl⟩
  rw [hl] at hCl
  have HCl := Lib.hid hCl
  have HCw := Lib.hid hCw
  clear hCl hCw hD hw
  obtain ⟨t, ht⟩ : ∃ t, min l 5 = t := ⟨_, rfl⟩
  have hti : min (l : Int) 5 = (t : Int) := by omega
  have htl : t ≤ l := by omega
  have ht5 : t ≤ 5 := by omega
  have HT := Lib.hid ht
  clear ht
  have HV := Lib.hid (bnum_get C HCw.out)
  go_enter Tryd.func129, Tryd.ntmps129
  go_wp2
  go_loopw [8, 25] (fun q i wr => ∃ k m : Nat, k ≤ t ∧ i = .int .i64 k ∧ q = .int .i64 m ∧ Hid (rdF 5 0 0 C = rdF (5 - k) k m (C.drop k) ∧ m < 128 ^ k) ∧ Drawn w wr) (fun _ i _ => t - (intOf i).toNat)
  case atStart => exact ⟨0, 0, Nat.zero_le _, rfl, rfl, Lib.hid ⟨rfl, by simp⟩, Drawn.refl _⟩
  case round =>
    obtain ⟨k, m, hk, rfl, rfl, HR, z, rfl⟩ := hrel
    by_cases hlt : k < t
    · obtain ⟨x, hx⟩ : ∃ x, C[k]? = some x := ⟨_, List.getElem?_eq_getElem (by rw [HCl.out]; omega)⟩
      have hx256 := HCw.out x (List.mem_of_getElem? hx)
      obtain ⟨g, hg⟩ : ∃ g, 8 * k = g := ⟨_, rfl⟩
      have hgi : 8 * (k : Int) = (g : Int) := by omega
      obtain ⟨g7, hg7⟩ : ∃ g7, 7 * k = g7 := ⟨_, rfl⟩
      have hg7i : 7 * (k : Int) = (g7 : Int) := by omega
      have C1 : Hid (∀ W : World, Lies W B8 (some ⟨b, o + a, none⟩) C → Calls Tryd.prog 140 #[.slice (some ⟨b, o + a, none⟩) l (c - a), .int .i64 g, .int .i64 7] W fun e w' => e = .returned (.int .i64 (x % 128 : Nat)) ∧ Drawn W w') := Lib.hid fun W hW => by
        have h := fieldB_any (some ⟨b, o + a, none⟩) l (c - a) C (bnum C) g 7 W hW (Lib.hid HCl.out) HV.out (by omega) (by omega) (by omega)
        rw [← hg, field_seven (bnum C) k x (HV.out k x hx), hg] at h
        exact h
      have C2 : Hid (∀ W : World, Lies W B8 (some ⟨b, o + a, none⟩) C → Calls Tryd.prog 140 #[.slice (some ⟨b, o + a, none⟩) l (c - a), .int .i64 ((g : Int) + 7), .int .i64 1] W fun e w' => e = .returned (.int .i64 (x / 128 : Nat)) ∧ Drawn W w') := Lib.hid fun W hW => by
        have h := fieldB_any (some ⟨b, o + a, none⟩) l (c - a) C (bnum C) (g + 7) 1 W hW (Lib.hid HCl.out) HV.out (by omega) (by omega) (by omega)
        rw [← hg, field_top (bnum C) k x (HV.out k x hx), hg] at h
        exact h
      obtain ⟨d, hd⟩ : ∃ d, x % 128 = d := ⟨_, rfl⟩
      obtain ⟨y, hy⟩ : ∃ y, x / 128 = y := ⟨_, rfl⟩
      obtain ⟨u, hu⟩ : ∃ u, m + d * 128 ^ k = u := ⟨_, rfl⟩
      have hF : bits .or .i64 (m : Int) (wrap64 ((d : Int) * 2 ^ g7)) = (u : Int) := by
        rw [← hu, ← hg7]
        exact rd_form m d k HR.out.2 (by omega) (by omega)
      have hu5 : u < 34359738368 := by
        have h1 := rd_lt (x := x) HR.out.2
        rw [hd, hu] at h1
        exact Nat.lt_of_lt_of_le h1 (pow_le5 (by omega))
      have HN : Hid (rdF 5 0 0 C = (if 128 ≤ x then rdF (4 - k) (k + 1) u (C.drop (k + 1)) else if (x = 0 ∧ 0 < k) ∨ 4294967295 < u then none else some (u, k + 1)) ∧ u < 128 ^ (k + 1)) := Lib.hid (by
        have h1 := rd_lt (x := x) HR.out.2
        rw [hd, hu] at h1
        refine ⟨?_, h1⟩
        rw [HR.out.1, show 5 - k = (4 - k) + 1 by omega, rd_step hx, hd, hu])
      rw [hd] at C1
      rw [hy] at C2
      have HC := Lib.hid hC
      clear hx hg hg7 hu HV HR hC
      by_cases hx128 : 128 ≤ x
      · have hy1 : y = 1 := by omega
        subst hy1
        have HM : Hid (rdF 5 0 0 C = rdF (5 - (k + 1)) (k + 1) u (C.drop (k + 1)) ∧ u < 128 ^ (k + 1)) := Lib.hid ⟨by rw [HN.out.1, if_pos hx128, show 5 - (k + 1) = 4 - k by omega], HN.out.2⟩
        clear hy hd HN
        go_wp2_with fail
        refine (C1.out _ (HC.out.drewN _)).mono ?_
        rintro e w' ⟨rfl, z1, rfl⟩
        go_wp2_with fail
        refine (C2.out _ (HC.out.drewN _)).mono ?_
        rintro e w' ⟨rfl, z2, rfl⟩
        go_wp2
        go_roundw
        case rel => exact ⟨k + 1, u, by omega, by go_num, rfl, HM, ⟨_, rfl⟩⟩
        case measure => simp [intOf]; omega
      · have hy0 : y = 0 := by omega
        subst hy0
        have hdx : d = x := by omega
        subst hdx
        have hk1 : k + 1 ≤ 5 := by omega
        by_cases hz : d = 0 ∧ 0 < k
        · have HM : Hid (rdF 5 0 0 C = none) := Lib.hid (by rw [HN.out.1, if_neg hx128, if_pos (.inl hz)])
          have t1 : ((d : Int) == 0) = true := by rw [beq_iff_eq]; omega
          have t2 : decide ((0 : Int) < (k : Int)) = true := by simp; omega
          have t2n : decide (0 < k) = true := by simp; omega
          clear hy hd HN hz hx256 hx128
          go_wp2_with fail
          refine (C1.out _ (HC.out.drewN _)).mono ?_
          rintro e w' ⟨rfl, z1, rfl⟩
          go_wp2_with fail
          refine (C2.out _ (HC.out.drewN _)).mono ?_
          rintro e w' ⟨rfl, z2, rfl⟩
          go_wp2
          go_ret3
          exact ⟨HE.out.1 HM.out, ⟨_, rfl⟩⟩
        · by_cases hbig : 4294967295 < u
          · have HM : Hid (rdF 5 0 0 C = none) := Lib.hid (by rw [HN.out.1, if_neg hx128, if_pos (.inr hbig)])
            have t3 : decide ((4294967295 : Int) < (u : Int)) = true := by simp; omega
            have t3n : decide (4294967295 < u) = true := by simp; omega
            clear hy hd HN
            by_cases hd0 : d = 0
            · have t1 : ((d : Int) == 0) = true := by rw [beq_iff_eq]; omega
              have t2 : decide ((0 : Int) < (k : Int)) = false := by simp; omega
              have t2n : decide (0 < k) = false := by simp; omega
              clear hz hd0 hx256 hx128
              go_wp2_with fail
              refine (C1.out _ (HC.out.drewN _)).mono ?_
              rintro e w' ⟨rfl, z1, rfl⟩
              go_wp2_with fail
              refine (C2.out _ (HC.out.drewN _)).mono ?_
              rintro e w' ⟨rfl, z2, rfl⟩
              go_wp2
              go_ret3
              exact ⟨HE.out.1 HM.out, ⟨_, rfl⟩⟩
            · have t1 : ((d : Int) == 0) = false := by rw [beq_eq_false_iff_ne]; omega
              clear hz hd0 hx256 hx128
              go_wp2_with fail
              refine (C1.out _ (HC.out.drewN _)).mono ?_
              rintro e w' ⟨rfl, z1, rfl⟩
              go_wp2_with fail
              refine (C2.out _ (HC.out.drewN _)).mono ?_
              rintro e w' ⟨rfl, z2, rfl⟩
              go_wp2
              go_ret3
              exact ⟨HE.out.1 HM.out, ⟨_, rfl⟩⟩
          · have HM : Hid (rdF 5 0 0 C = some (u, k + 1)) := Lib.hid (by rw [HN.out.1, if_neg hx128, if_neg (fun h => h.elim hz hbig)])
            have t3 : decide ((4294967295 : Int) < (u : Int)) = false := by simp; omega
            have t3n : decide (4294967295 < u) = false := by simp; omega
            have HR2 := Lib.hid (HE.out.2 _ _ HM.out)
            clear hy hd HN
            by_cases hd0 : d = 0
            · have t1 : ((d : Int) == 0) = true := by rw [beq_iff_eq]; omega
              have t2 : decide ((0 : Int) < (k : Int)) = false := by simp; omega
              have t2n : decide (0 < k) = false := by simp; omega
              clear hz hd0 hx256 hx128
              go_wp2_with fail
              refine (C1.out _ (HC.out.drewN _)).mono ?_
              rintro e w' ⟨rfl, z1, rfl⟩
              go_wp2_with fail
              refine (C2.out _ (HC.out.drewN _)).mono ?_
              rintro e w' ⟨rfl, z2, rfl⟩
              go_wp2
              go_ret3
              refine ⟨?_, ⟨_, rfl⟩⟩
              exact HR2.out
            · have t1 : ((d : Int) == 0) = false := by rw [beq_eq_false_iff_ne]; omega
              clear hz hd0 hx256 hx128
              go_wp2_with fail
              refine (C1.out _ (HC.out.drewN _)).mono ?_
              rintro e w' ⟨rfl, z1, rfl⟩
              go_wp2_with fail
              refine (C2.out _ (HC.out.drewN _)).mono ?_
              rintro e w' ⟨rfl, z2, rfl⟩
              go_wp2
              go_ret3
              refine ⟨?_, ⟨_, rfl⟩⟩
              exact HR2.out
    · have HM : Hid (rdF 5 0 0 C = none) := Lib.hid (by
        have hkt : k = t := by omega
        rw [HR.out.1]
        by_cases hl5 : l ≤ 5
        · exact rd_over (by rw [HCl.out]; have := HT.out; omega)
        · rw [show 5 - k = 0 by have := HT.out; omega]
          rfl)
      clear HR HV hC
      go_wp2
      go_ret3
      exact ⟨HE.out.1 HM.out, ⟨_, rfl⟩⟩

theorem implVarRd_any (A : Option Addr) (c : Nat) (D : List Nat) (a : Int) (w : World) (hD : Lies w B8 A D) (hw : ∀ x ∈ D, x < 2 ^ 8) (hnc : D.length ≤ c) (hcm : c ≤ 9223372036854775807) (hn : D.length ≤ 17592186044416) :
    Calls Tryd.prog 129 #[.slice A D.length c, .int .i64 a] w fun e w' => VrEnd D a e ∧ Below w.heap.size w w' := by
  by_cases h : 0 ≤ a ∧ a < D.length
  · obtain ⟨m, rfl⟩ := Int.eq_ofNat_of_zero_le h.1
    exact (implVarRd_in A D.length c D m w hD (Lib.hid rfl) hw (by omega) hnc hcm hn).mono fun e w' h => ⟨h.1, h.2.below _⟩
  · refine (implVarRd_out A D.length c a w (by omega)).mono fun e w' h' => ⟨?_, by rw [← h'.2]; exact Below.refl _ _⟩
    rw [h'.1]
    exact vr_out h

end Go.Proofs.YtlbnngolcoefdaaDoor
