/- The specification's PackOf. -/
import Derived.Test.YtlbnngolcoefdaaDoorPk7
import Derived.Test.YtlbnngolcoefdaaDoorNewB
namespace Go.Proofs.YtlbnngolcoefdaaDoor
open Go.RowKit
set_option maxRecDepth 100000

set_option maxHeartbeats 400000 in
theorem pow_any (i : Nat) (w : World) (hi : i < 62) :
    Calls Tryd.prog 50 #[.int .i64 i] w fun e w' => e = .returned (.int .i64 (2 ^ i : Nat)) ∧ w = w' := by
  go_enter Tryd.func50, Tryd.ntmps50
  go_wp2
  go_loop [0, 3] (fun v x => ∃ j p : Nat, j ≤ i ∧ v = .int .i64 j ∧ x = .int .i64 p ∧ Hid (p * 2 ^ j = 2 ^ i)) (fun v _ => (intOf v).toNat)
  case atStart => exact ⟨i, 1, Nat.le_refl _, rfl, rfl, Lib.hid (by omega)⟩
  case round =>
    obtain ⟨j, p, hj, rfl, rfl, hp⟩ := hrel
    rcases Nat.eq_zero_or_pos j with h0 | h0
    · subst h0
      go_wp2
      go_ret
      exact ⟨ret_int (by have h := hp.out; rw [Nat.pow_zero, Nat.mul_one] at h; rw [h]; simp), rfl⟩
    · obtain ⟨j, rfl⟩ : ∃ j', j = j' + 1 := ⟨j - 1, by omega⟩
      have hb : p < 4611686018427387904 := by
        have h1 : 2 ^ i ≤ 2 ^ 61 := Nat.pow_le_pow_right (by omega) (by omega)
        have h2 : 1 ≤ 2 ^ (j + 1) := Nat.two_pow_pos _
        have h3 := Nat.mul_le_mul_left p h2
        rw [hp.out] at h3
        omega
      go_wp2
      go_round
      case rel => exact ⟨j, 2 * p, by omega, by go_num, by go_num, Lib.hid (by rw [← hp.out, Nat.pow_succ, Nat.mul_comm 2 p, Nat.mul_assoc, Nat.mul_comm 2])⟩
      case measure => simp [intOf]

theorem fits_false {n : Nat} {wd : Int} (h : fitsB n wd = false) : wd < 0 ∨ 32 < wd ∨ 5000 < n ∨ (0 ≤ wd ∧ wd ≤ 32 ∧ n ≤ 5000 ∧ 5000 < n * wd) := by
  unfold fitsB at h
  rw [decide_eq_false_iff_not] at h
  by_cases h1 : wd < 0
  · exact .inl h1
  · by_cases h2 : 32 < wd
    · exact .inr (.inl h2)
    · by_cases h3 : 5000 < n
      · exact .inr (.inr (.inl h3))
      · refine .inr (.inr (.inr ⟨by omega, by omega, by omega, ?_⟩))
        rcases Int.lt_or_le 5000 ((n : Int) * wd) with h4 | h4
        · exact h4
        · exact absurd ⟨by omega, by omega, by omega, by omega, h4⟩ h

set_option maxHeartbeats 400000 in
theorem specPackOf_unfit (A : Option Addr) (n c : Nat) (wd : Int) (w : World) (hn : n ≤ 17592186044416) (hf : fitsB n wd = false) :
    Calls Tryd.prog 52 #[.slice A n c, .int .i64 wd] w (NewPacked w 0 0 0 [] false) := by
  by_cases h1 : wd < 0
  · have d1 : decide (wd < 0) = true := by simpa using h1
    go_enter Tryd.func52, Tryd.ntmps52
    go_wp2
    refine bodyPost_ret (v := .tuple #[PK 0 0 0 (.slice none 0 0), .bool false]) (by simp [results, Tryd.results52, go_sem]) rfl ?_
    exact ⟨none, 0, rfl, World.ownsRow_nil _ _ _ _, by go_grown⟩
  · have d1 : decide (wd < 0) = false := by simpa using h1
    by_cases h2 : 32 < wd
    · have d2 : decide (32 < wd) = true := by simpa using h2
      go_enter Tryd.func52, Tryd.ntmps52
      go_wp2
      refine bodyPost_ret (v := .tuple #[PK 0 0 0 (.slice none 0 0), .bool false]) (by simp [results, Tryd.results52, go_sem]) rfl ?_
      exact ⟨none, 0, rfl, World.ownsRow_nil _ _ _ _, by go_grown⟩
    · have d2 : decide (32 < wd) = false := by simpa using h2
      by_cases h3 : 5000 < n
      · have h3i : (5000 : Int) < (n : Int) := by omega
        have d3 : decide ((5000 : Int) < (n : Int)) = true := by simpa using h3i
        go_enter Tryd.func52, Tryd.ntmps52
        go_wp2
        refine bodyPost_ret (v := .tuple #[PK 0 0 0 (.slice none 0 0), .bool false]) (by simp [results, Tryd.results52, go_sem]) rfl ?_
        exact ⟨none, 0, rfl, World.ownsRow_nil _ _ _ _, by go_grown⟩
      · have d3 : decide ((5000 : Int) < (n : Int)) = false := by simp; omega
        have h4 : 5000 < (n : Int) * wd := by
          rcases fits_false hf with h | h | h | h
          · omega
          · omega
          · omega
          · exact h.2.2.2
        have h5 : (n : Int) * wd ≤ 5000 * 32 := Int.mul_le_mul (by omega) (by omega) (by omega) (by omega)
        obtain ⟨q, hq⟩ : ∃ q, (n : Int) * wd = q := ⟨_, rfl⟩
        rw [hq] at h4 h5
        have d4 : decide (5000 < q) = true := by simpa using h4
        go_enter Tryd.func52, Tryd.ntmps52
        go_wp2
        refine bodyPost_ret (v := .tuple #[PK 0 0 0 (.slice none 0 0), .bool false]) (by simp [results, Tryd.results52, go_sem]) rfl ?_
        exact ⟨none, 0, rfl, World.ownsRow_nil _ _ _ _, by go_grown⟩

/-- What holds of the world while the bits are laid one behind another. -/
structure SpInv (w : World) (D : List Int) (s : Value) (wr : World) : Prop where
  below : Below w.heap.size w wr
  res : Box wr w.heap.size 31 #[.int .i64 0, .int .i64 0, .int .i64 0, .slice none 0 0]
  own : wr.ownsRow (w.heap.size + 1) 3 1 s D.length (D.map I)

theorem SpInv.push {w : World} {D : List Int} {s v : Value} {wr w1 : World} {o : Obj} {x : Int} (h : SpInv w D s wr) (hown : w1.ownsRow (w.heap.size + 1) 3 1 v (D.length + 1) (D.map I ++ [.int .i64 x])) (hg : (wr.alloc o).grownBy w1 s.ownBlock) : SpInv w (D ++ [x]) v w1 := by
  have hlt := h.res.lt
  refine ⟨(h.below.alloc (by omega) o).grown hg (by simp; omega) (fun j hj => by have := (h.own.lt j hj).1; omega), (h.res.alloc o).grown hg (own_apart h.own (by omega)), ?_⟩
  rw [List.length_append, List.map_append]
  exact hown

set_option maxRecDepth 100000 in
set_option maxHeartbeats 1600000 in
theorem specPackOf_fit (A : Option Addr) (n c : Nat) (B : List Int) (wd : Nat) (w : World) (hB : Lies w I A B) (Hn : Hid (B.length = n)) (hwd : wd ≤ 32) (hn : n ≤ 5000) (hnw : n * wd ≤ 5000) :
    Calls Tryd.prog 52 #[.slice A n c, .int .i64 wd] w (PoEnd w B n wd (n * wd) ((n * wd + 63) / 64)) := by
  obtain ⟨i0, hi, hz0, hz1, hz2⟩ := info_parts Tryd.infoInt
  obtain ⟨m, hm⟩ : ∃ m, n * wd = m := ⟨_, rfl⟩
  obtain ⟨T, hT⟩ : ∃ T, (m + 63) / 64 = T := ⟨_, rfl⟩
  rw [hm, hT]
  rw [hm] at hnw
  have hmul : (n : Int) * (wd : Int) = (m : Int) := by rw [← hm]; simp
  have d1 : decide ((wd : Int) < 0) = false := by simp
  have d2 : decide ((32 : Int) < (wd : Int)) = false := by simp; omega
  have d3 : decide ((5000 : Int) < (n : Int)) = false := by simp; omega
  have d4 : decide ((5000 : Int) < (m : Int)) = false := by simp; omega
  have hT5 : T ≤ 79 := by omega
  have HM := Lib.hid hm
  have HT := Lib.hid hT
  clear hm hT
  obtain ⟨p, hp⟩ : ∃ p, 2 ^ wd = p := ⟨_, rfl⟩
  have CP : Hid (∀ W : World, Calls Tryd.prog 50 #[.int .i64 wd] W fun e w' => e = .returned (.int .i64 p) ∧ W = w') := Lib.hid fun W => (pow_any wd W (by omega)).mono fun e w' h => ⟨by rw [h.1, hp], h.2⟩
  have hp32 : p ≤ 4294967296 := by rw [← hp]; exact Nat.pow_le_pow_right (by omega) hwd
  have HP := Lib.hid hp
  clear hp
  go_enter Tryd.func52, Tryd.ntmps52
  go_wp2
  clear d1 d2 d3 d4 hmul
  go_loopw [6, 7] (fun s i wr => ∃ k : Nat, k ≤ n ∧ i = .int .i64 k ∧ Hid (∀ x ∈ B.take k, 0 ≤ x ∧ x < 2 ^ wd) ∧ SpInv w (packBits wd (B.take k)) s wr) (fun _ i _ => n - (intOf i).toNat)
  case atStart =>
    refine ⟨0, Nat.zero_le _, rfl, Lib.hid (by simp), by go_grown, (Box.made _ _ _).alloc _, ?_⟩
    have h := World.ownsRow_made (w.alloc (Obj.cells #[Value.int IntKind.i64 0, Value.int IntKind.i64 0, Value.int IntKind.i64 0, Value.slice none 0 0] 31)) (e := 3) (size := 1) #[] 0 (Nat.le_refl _) (by unfold maxLen; omega) rfl
    rw [World.size_alloc] at h
    exact h
  case round =>
    obtain ⟨k, hk, rfl, HF, inv⟩ := hrel
    have fr0 := inv.res.cell 0
    have fr1 := inv.res.cell 1
    have fr2 := inv.res.cell 2
    have fr3 := inv.res.cell 3
    have fz0 := inv.res.frozen 0
    have fz1 := inv.res.frozen 1
    have fz2 := inv.res.frozen 2
    have fz3 := inv.res.frozen 3
    have hrl := inv.res.lt
    simp only [List.getElem?_toArray, List.getElem?_cons_zero, List.getElem?_cons_succ] at fr0 fr1 fr2 fr3
    by_cases hlt : k < n
    · obtain ⟨b, o, x, rfl, hbl, hx, hc⟩ := hB.at_ (i := k) (by rw [Hn.out]; exact hlt)
      have hc' : wr.cell? ⟨b, o + k, none⟩ = some (.int .i64 x) := (inv.below.cell (p := ⟨b, o + k, none⟩) hbl).trans hc
      by_cases hbad : x < 0 ∨ (p : Int) ≤ x
      · have HNo : Hid (¬ (∀ y ∈ B, 0 ≤ y ∧ y < 2 ^ wd)) := Lib.hid fun h => by
          have h1 := h x (List.mem_of_getElem? hx)
          have h2 : (2 : Int) ^ wd = (p : Int) := by rw [← HP.out]; simp
          rw [h2] at h1
          omega
        have HI := Lib.hid inv
        by_cases h0 : x < 0
        · have d0 : decide (x < 0) = true := by simpa using h0
          clear hx hc inv hB hbad
          go_wp2
          refine bodyPost_ret (v := .tuple #[PK 0 0 0 (.slice none 0 0), .bool false]) (by simp [results, Tryd.results52, go_sem, fr0, fr1, fr2, fr3]) rfl ?_
          exact .inr ⟨HNo.out, none, 0, rfl, World.ownsRow_nil _ _ _ _, (((HI.out.below.setCell (Nat.le_refl _) _).setCell (Nat.le_refl _) _).setCell (Nat.le_refl _) _).setCell (Nat.le_refl _) _⟩
        · have d0 : decide (x < 0) = false := by simpa using h0
          have h1 : (p : Int) ≤ x := by omega
          have d1 : decide ((p : Int) ≤ x) = true := by simpa using h1
          clear hx hc inv hB hbad
          go_wp2_with (go_at_call 50; refine (CP.out _).mono ?_; rintro e w' ⟨rfl, rfl⟩)
          refine bodyPost_ret (v := .tuple #[PK 0 0 0 (.slice none 0 0), .bool false]) (by simp [results, Tryd.results52, go_sem, fr0, fr1, fr2, fr3]) rfl ?_
          exact .inr ⟨HNo.out, none, 0, rfl, World.ownsRow_nil _ _ _ _, (((HI.out.below.setCell (Nat.le_refl _) _).setCell (Nat.le_refl _) _).setCell (Nat.le_refl _) _).setCell (Nat.le_refl _) _⟩
      · obtain ⟨y, rfl⟩ := Int.eq_ofNat_of_zero_le (show 0 ≤ x by omega)
        have hyp : y < p := by omega
        have d0 : decide ((y : Int) < 0) = false := by simp
        have d1 : decide ((p : Int) ≤ (y : Int)) = false := by simp; omega
        have d1n : decide (p ≤ y) = false := by simp; omega
        have hpl := part_le' hlt HM.out
        have hDl := packBits_len wd (B.take k)
        rw [List.length_take, Nat.min_eq_left (by rw [Hn.out]; omega)] at hDl
        have HN : Hid (packBits wd (B.take (k + 1)) = packBits wd (B.take k) ++ numBits wd y ∧ ∀ x ∈ B.take (k + 1), 0 ≤ x ∧ x < 2 ^ wd) := Lib.hid (by
          obtain ⟨hk', hx'⟩ := List.getElem?_eq_some_iff.1 hx
          rw [List.take_succ_eq_append_getElem hk', hx', packBits_snoc]
          refine ⟨rfl, fun z hz => ?_⟩
          rcases List.mem_append.1 hz with h3 | h3
          · exact HF.out z h3
          · obtain rfl : z = (y : Int) := by simpa using h3
            have h2 : (2 : Int) ^ wd = (p : Int) := by rw [← HP.out]; simp
            rw [h2]
            omega)
        have hDk : (packBits wd (B.take k)).length + wd ≤ m := by rw [hDl]; exact hpl
        generalize packBits wd (B.take k) = D at *
        have HI := Lib.hid inv
        clear hx hc inv hbad hDl hpl fr0 fr1 fr2 fr3 fz0 fz1 fz2 fz3 hrl
        go_wp2_with (go_at_call 50; refine (CP.out _).mono ?_; rintro e w' ⟨rfl, rfl⟩)
        clear hc'
        go_loopw [6, 8, 9] (fun s q j wi => ∃ (d z : Nat), d ≤ wd ∧ z ≤ y ∧ q = .int .i64 z ∧ j = .int .i64 d ∧ Hid (z = y / 2 ^ d) ∧ SpInv w (D ++ numBits d y) s wi) (fun _ _ j _ => wd - (intOf j).toNat)
        case atStart => exact ⟨0, y, Nat.zero_le _, Nat.le_refl _, rfl, rfl, Lib.hid (by simp), by simpa [numBits] using HI.out⟩
        case round =>
          obtain ⟨d, z, hd, hzy, rfl, rfl, HZ, inv⟩ := hrel
          have hDd : (D ++ numBits d y).length ≤ 5000 := by rw [List.length_append, numBits_len]; omega
          obtain ⟨E, hE⟩ : ∃ E, D ++ numBits d y = E := ⟨_, rfl⟩
          rw [hE] at hDd inv
          have HE := Lib.hid hE
          have HI := Lib.hid inv
          clear inv hE
          by_cases hlt2 : d < wd
          · go_wp2_with (at_builtin; refine wpList_append_own _ rfl _ _ 24 rfl (w.heap.size + 1) 3 i0 (.int .i64 0) 1 8 Tryd.underlying24 hi hz0 hz1 hz2 rfl (by decide) _ _ _ rfl (HI.out.own.alloc _) ⟨wr.heap.size, 0, none⟩ 1 1 [.int .i64 ((z : Int) % 2)] rfl rfl (cell_one_new _ _ _) (ints_oneCell .i64 [_]) (by unfold maxLen; omega) (by omega) (by have := HI.out.res.lt; simp; omega) ?_)
            intro v' w1 hown' hgrow _
            have HO := Lib.hid (HI.out.push hown' hgrow)
            clear hown' hgrow
            go_wp2
            go_roundw
            case rel =>
              refine ⟨d + 1, z / 2, by omega, by omega, by go_num, by go_num, Lib.hid (by rw [HZ.out, Nat.pow_succ, Nat.div_div_eq_div_mul]), ?_⟩
              have h := HO.out
              rw [numBits_succ, Int.toNat_natCast, ← HZ.out, ← List.append_assoc, HE.out]
              exact h
            case measure => simp [intOf]; omega
          · go_wp2
            go_roundw
            case rel =>
              have e : d = wd := by omega
              subst e
              refine ⟨k + 1, by omega, by go_num, Lib.hid HN.out.2, ?_⟩
              rw [HN.out.1, HE.out]
              exact HI.out
            case measure => simp [intOf]; omega
    · have e : k = n := by omega
      subst e
      have hfine := HF.out
      rw [List.take_of_length_le (by rw [Hn.out]; omega)] at inv hfine
      have hDl := packBits_len wd B
      rw [Hn.out, HM.out] at hDl
      have hown := inv.own
      rw [hDl] at hown
      obtain ⟨A1, c1, rfl⟩ := own_slice hown
      have hD1 : Lies wr I A1 (packBits wd B) := Lies.of_own hown
      have HW := Lib.hid (packWords wd B)
      rw [Hn.out, HM.out, HT.out] at HW
      have HFi := Lib.hid hfine
      have HBl := Lib.hid inv.below
      have HRs := Lib.hid inv.res
      have HBits := Lib.hid (packBits_bits wd B)
      have HC := Lib.hid (specOf_any A1 c1 (packBits wd B) wr hD1 (by omega))
      rw [hDl] at HC
      have HDl := Lib.hid hDl
      clear inv hfine HF hB hown hD1 hDl
      generalize packBits wd B = D at *
      go_wp2_with fail
      refine HC.out.mono ?_
      rintro e w1 (⟨_, _, hb1, v1, rfl, hown1⟩ | ⟨hno, _⟩)
      · rw [HDl.out] at hown1
        rw [HDl.out]
        rw [HT.out, HW.out] at hown1
        obtain ⟨A2, c2, rfl⟩ := own_slice hown1
        have hr1 := HRs.out.below hb1 HRs.out.lt
        have gr0 := hr1.cell 0
        have gr1 := hr1.cell 1
        have gr2 := hr1.cell 2
        have gr3 := hr1.cell 3
        have gz0 := hr1.frozen 0
        have gz1 := hr1.frozen 1
        have gz2 := hr1.frozen 2
        have gz3 := hr1.frozen 3
        have hgl := hr1.lt
        simp only [List.getElem?_toArray, List.getElem?_cons_zero, List.getElem?_cons_succ] at gr0 gr1 gr2 gr3
        have HB1 := Lib.hid (HBl.out.trans (hb1.mono HBl.out.size))
        have HO1 := Lib.hid hown1
        have HS := Lib.hid (Nat.lt_of_lt_of_le HRs.out.lt (Nat.le_refl _))
        clear hb1 hown1 hr1 fr0 fr1 fr2 fr3 fz0 fz1 fz2 fz3 hrl
        go_wp2
        refine bodyPost_ret (v := .tuple #[PK wd k m (.slice A2 T c2), .bool true]) (by simp [results, Tryd.results52, go_sem, gr0, gr1, gr2, gr3, hgl]) rfl ?_
        refine .inl ⟨HFi.out, A2, c2, by rw [digits_len], ?_, ?_⟩
        · rw [digits_len]
          exact (own_mono (ownsRow_setCell_below (ownsRow_setCell_below (ownsRow_setCell_below (ownsRow_setCell_below HO1.out (by exact HS.out) _) (by exact HS.out) _) (by exact HS.out) _) (by exact HS.out) _) (Nat.le_of_lt HS.out)).alloc _
        · exact ((((HB1.out.setCell (Nat.le_refl _) _).setCell (Nat.le_refl _) _).setCell (Nat.le_refl _) _).setCell (Nat.le_refl _) _).alloc (by go_size) _
      · exact absurd ⟨by rw [HDl.out]; omega, HBits.out⟩ hno

theorem specPackOf_any (A : Option Addr) (c : Nat) (B : List Int) (wd : Int) (w : World) (hB : Lies w I A B) (hn : B.length ≤ 17592186044416) :
    Calls Tryd.prog 52 #[.slice A B.length c, .int .i64 wd] w (NewPacked w (poP B wd) (poN B wd) (poM B wd) (poW B wd) (poOk B wd)) := by
  cases hf : fitsB B.length wd
  · have h := specPackOf_unfit A B.length c wd w hn hf
    rw [po_unfit hf]
    exact h
  · obtain ⟨d, rfl, h1, h2, h3⟩ := fits_nat hf
    exact (specPackOf_fit A B.length c B d w hB (Lib.hid rfl) h1 h2 h3).mono fun e w' h => po_end hf h

end Go.Proofs.YtlbnngolcoefdaaDoor
