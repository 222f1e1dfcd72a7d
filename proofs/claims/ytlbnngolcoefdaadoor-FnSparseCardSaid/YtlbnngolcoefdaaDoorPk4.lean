/- The specification's PackList. -/
import Derived.Test.YtlbnngolcoefdaaDoorPk3
import Derived.Test.YtlbnngolcoefdaaDoorNewB
namespace Go.Proofs.YtlbnngolcoefdaaDoor
open Go.RowKit
set_option maxRecDepth 100000

set_option maxHeartbeats 400000 in
theorem specPackList_bad (P N M : Int) (A : Option Addr) (c : Nat) (L : List Nat) (w : World) (hL : Lies w U A L) (hw : ∀ x ∈ L, x < 2 ^ 64) (hok : okP P N M L = false) :
    Calls Tryd.prog 134 #[PK P N M (.slice A L.length c)] w (NewI w []) := by
  have HW := Lib.hid hw
  clear hw
  go_enter Tryd.func134, Tryd.ntmps134
  go_wp2_with fail
  refine (specPackOk_any P N M A c L _ (hL.below (by go_grown)) HW.out).mono ?_
  rintro e w1 ⟨rfl, hb⟩
  rw [hok]
  have HB := Lib.hid hb
  clear hb hL hok
  go_wp2
  go_ret
  exact ⟨_, _, rfl, World.ownsRow_nil _ _ _ _, below_then (by go_grown) HB.out⟩

theorem pl_lt (V a wd : Nat) (h : wd ≤ 32) : V / 2 ^ a % 2 ^ wd < 4294967296 :=
  Nat.lt_of_lt_of_le (Nat.mod_lt _ (Nat.two_pow_pos _)) (Nat.pow_le_pow_right (by omega) h)

set_option maxHeartbeats 800000 in
theorem specPackList_ok (wd n m : Nat) (A : Option Addr) (c : Nat) (L : List Nat) (w : World) (hL : Lies w U A L) (hw : ∀ x ∈ L, x < 2 ^ 64) (hok : okP wd n m L = true) (Hm : Hid (m = n * wd)) (hwd : wd ≤ 32) (hn : n ≤ 5000) (hm5 : m ≤ 5000) (Hl : Hid (L.length = (m + 63) / 64)) :
    Calls Tryd.prog 134 #[PK wd n m (.slice A L.length c)] w (NewI w (unpack wd n (val (bitsOf m L)))) := by
  obtain ⟨i0, hi, hz0, hz1, hz2⟩ := info_parts Tryd.infoInt
  have HW := Lib.hid hw
  clear hw
  have HBit : Hid (∀ j, j < m → (bitsOf m L)[j]? = some ((val (bitsOf m L) / 2 ^ j % 2 : Nat) : Int)) := Lib.hid fun j hj => val_bit _ (bitsOf_bits m L) j (by rw [bitsOf_len]; exact hj)
  have HC : Hid (∀ W : World, Lies W U A L → Calls Tryd.prog 135 #[.agg #[.int .i64 m, .slice A L.length c]] W fun e w' => ∃ v, e = .returned v ∧ w'.ownsRow W.heap.size 3 1 v m ((bitsOf m L).map I) ∧ Below W.heap.size W w') :=
    Lib.hid fun W hLW => list_any m A c L W hLW (by rw [Hl.out]; exact Nat.le_refl _) hm5 (by rw [Hl.out]; omega) HW.out
  have HBl := Lib.hid (bitsOf_len m L)
  generalize val (bitsOf m L) = V at *
  generalize bitsOf m L = B at *
  go_enter Tryd.func134, Tryd.ntmps134
  go_wp2_with fail
  have hx0 := Box.made w 31 #[.int .i64 wd, .int .i64 n, .int .i64 m, .slice A L.length c]
  have hb0 : Below w.heap.size w (w.alloc (.cells #[.int .i64 wd, .int .i64 n, .int .i64 m, .slice A L.length c] 31)) := by go_grown
  have hL0 := hL.below hb0
  refine (specPackOk_any wd n m A c L _ hL0 HW.out).mono ?_
  rintro e w1 ⟨rfl, hb⟩
  rw [hok]
  have hx1 := hx0.below hb hx0.lt
  have hL1 := hL0.below hb
  have hb1 := below_then hb0 hb
  have f2 := hx1.cell 2
  have f3 := hx1.cell 3
  simp only [List.getElem?_toArray, List.getElem?_cons_zero, List.getElem?_cons_succ] at f2 f3
  clear hb hL hok hx0 hb0 hL0
  go_wp2_with fail
  refine (HC.out _ hL1).mono ?_
  rintro e w2 ⟨v, rfl, hown, hb⟩
  obtain ⟨A2, c2, rfl⟩ := own_slice hown
  have hx2 := hx1.below hb hx1.lt
  have hb2 := below_then hb1 hb
  have hB2 : Lies w2 I A2 B := Lies.of_own hown
  have f0 := hx2.cell 0
  have f1 := hx2.cell 1
  have hS := hx2.lt
  simp only [List.getElem?_toArray, List.getElem?_cons_zero, List.getElem?_cons_succ] at f0 f1
  have HB2 := Lib.hid hb2
  clear hb hx1 hL1 hb1 hown hx2 hb2 f2 f3 HC
  go_wp2
  go_loopw [4, 5] (fun s i wr => ∃ k : Nat, k ≤ n ∧ i = .int .i64 k ∧ wr.ownsRow w2.heap.size 3 1 s k ((unpack wd k V).map I) ∧ Below w2.heap.size w2 wr) (fun _ i _ => n - (intOf i).toNat)
  case atStart =>
    refine ⟨0, Nat.zero_le _, rfl, ?_, (Below.refl _ _).alloc (Nat.le_refl _) _⟩
    exact World.ownsRow_made w2 #[] 0 (Nat.le_refl _) (by unfold maxLen; omega) rfl
  case round =>
    obtain ⟨k, hk, rfl, hown, hb⟩ := hrel
    have g0 := (hb.cell (p := ⟨w.heap.size, 0, none⟩) hS).trans f0
    have g1 := (hb.cell (p := ⟨w.heap.size, 1, none⟩) hS).trans f1
    by_cases hlt : k < n
    · have hpl := part_le hlt Hm.out
      obtain ⟨a, ha⟩ : ∃ a, k * wd = a := ⟨_, rfl⟩
      rw [ha] at hpl
      have hmul : (k : Int) * (wd : Int) = (a : Int) := by rw [← ha]; simp
      have HA := Lib.hid ha
      clear ha
      go_wp2
      go_loop [6, 7] (fun q j => ∃ (x : Nat) (d : Int), -1 ≤ d ∧ d < wd ∧ x < 4294967296 ∧ q = .int .i64 x ∧ j = .int .i64 d ∧ Hid (x = V / 2 ^ (a + (d + 1).toNat) % 2 ^ (wd - (d + 1).toNat))) (fun _ j => (intOf j + 1).toNat)
      case atStart => exact ⟨0, (wd : Int) - 1, by omega, by omega, by omega, rfl, by go_num, Lib.hid (by rw [show wd - ((wd : Int) - 1 + 1).toNat = 0 by omega, Nat.pow_zero, Nat.mod_one])⟩
      case round =>
        obtain ⟨x, d, hd0, hd1, hx32, rfl, rfl, hx⟩ := hrel
        by_cases hd : 0 ≤ d
        · obtain ⟨e, rfl⟩ := Int.eq_ofNat_of_zero_le hd
          have hae : a + e < m := by omega
          obtain ⟨b, o, y, rfl, hbl, hy, hc⟩ := hB2.at_ (i := a + e) (by rw [HBl.out]; exact hae)
          have hyv := HBit.out (a + e) hae
          rw [hy] at hyv
          obtain ⟨u, hu⟩ : ∃ u, V / 2 ^ (a + e) % 2 = u := ⟨_, rfl⟩
          have hu2 : u < 2 := by rw [← hu]; exact Nat.mod_lt _ (by decide)
          rw [hu] at hyv
          have hyu : y = (u : Int) := Option.some.inj hyv
          subst hyu
          have hc' : wr.cell? ⟨b, o + (a + e), none⟩ = some (.int .i64 u) := (hb.cell (p := ⟨b, o + (a + e), none⟩) hbl).trans hc
          have HN : Hid (2 * x + u = V / 2 ^ (a + ((e : Int) - 1 + 1).toNat) % 2 ^ (wd - ((e : Int) - 1 + 1).toNat)) := Lib.hid (by
            have h := field_down V (a + e) (wd - e - 1)
            have hx1 := hx.out
            rw [show ((e : Int) + 1).toNat = e + 1 by omega, ← Nat.add_assoc, show wd - (e + 1) = wd - e - 1 by omega] at hx1
            rw [← hx1, hu, show wd - e - 1 + 1 = wd - e by omega] at h
            rw [show ((e : Int) - 1 + 1).toNat = e by omega]
            exact h.symm)
          have hlt32 : 2 * x + u < 4294967296 := by rw [HN.out]; exact pl_lt _ _ _ (by omega)
          clear hy hc hyv hu hx
          go_wp2
          go_round
          case rel => exact ⟨2 * x + u, (e : Int) - 1, by omega, by omega, hlt32, by go_num, by go_num, HN⟩
          case measure => simp [intOf]
        · have hd' : d = -1 := by omega
          subst hd'
          have HX : Hid (x = V / 2 ^ a % 2 ^ wd) := Lib.hid (by
            have h := hx.out
            rw [show ((-1 : Int) + 1).toNat = 0 by decide, Nat.add_zero, Nat.sub_zero] at h
            exact h)
          have HN := Lib.hid hown
          have HB1 := Lib.hid hb
          clear hown hb hx
          go_wp2_with (at_builtin; refine wpList_append_own _ rfl _ _ 24 rfl w2.heap.size 3 i0 (.int .i64 0) 1 8 Tryd.underlying24 hi hz0 hz1 hz2 rfl (by decide) _ _ _ rfl (HN.out.alloc _) ⟨wr.heap.size, 0, none⟩ 1 1 [.int .i64 (x : Int)] rfl rfl (cell_one_new _ _ _) (ints_oneCell .i64 [_]) (by unfold maxLen; omega) (by omega) (by have := HB1.out.size; simp; omega) ?_)
          intro v' w3 hown' hgrow _
          have HO := Lib.hid hown'
          have HG := Lib.hid hgrow
          clear hown' hgrow
          go_wp2
          go_roundw
          case rel =>
            refine ⟨k + 1, by omega, by go_num, ?_, ?_⟩
            · rw [unpack_succ, List.map_append, HA.out, ← HX.out]
              exact HO.out
            · exact HB1.out.trans (((Below.refl _ _).alloc HB1.out.size _).grown HG.out (by have := HB1.out.size; simp; omega) (fun g hg => (HN.out.lt g hg).1))
          case measure => simp [intOf]; omega
    · go_wp2
      go_ret
      have e : k = n := by omega
      subst e
      exact newI_own (own_mono hown HB2.out.size) (unpack_len _ _ _) (below_then HB2.out hb)

theorem specPackList_any (P N M : Int) (A : Option Addr) (c : Nat) (L : List Nat) (w : World) (hL : Lies w U A L) (hw : ∀ x ∈ L, x < 2 ^ 64) :
    Calls Tryd.prog 134 #[PK P N M (.slice A L.length c)] w (NewI w (plV P N M L)) := by
  unfold plV
  cases hok : okP P N M L
  · rw [if_neg (by simp)]
    exact specPackList_bad P N M A c L w hL hw hok
  · rw [if_pos rfl]
    obtain ⟨wd, n, m, rfl, rfl, rfl, hm, hwd, hn, hm5, _, hl, _⟩ := okP_nat hok
    exact specPackList_ok wd n m A c L w hL hw hok (Lib.hid hm) hwd hn hm5 (Lib.hid hl)

end Go.Proofs.YtlbnngolcoefdaaDoor
