/- Occurs, of the program and of the specification. -/
import Derived.Test.YtlgnndfhpnbhmaaSfEq
import Derived.Test.YtlgnndfhpnbhmaaSf2
import Derived.Test.YtlgnndfhpnbhmaaAppI
import Derived.Test.YtlgnndfhpnbhmaaNewI
namespace Go.Proofs.Ytlgnndfhpnbhmaa
open Go.RowKit
set_option maxRecDepth 100000

/-- Where P begins, among the first k indices. -/
def occK (L P : List Nat) (k : Nat) : List Int := ((List.range k).filter fun i => decide ((L.drop i).take P.length = P)).map Int.ofNat
theorem occK_yes {L P : List Nat} {k : Nat} (h : (L.drop k).take P.length = P) : occK L P k ++ [(k : Int)] = occK L P (k + 1) := by
  unfold occK
  rw [List.range_succ, List.filter_append, List.map_append]
  simp [h]
theorem occK_no {L P : List Nat} {k : Nat} (h : ¬ (L.drop k).take P.length = P) : occK L P k = occK L P (k + 1) := by
  unfold occK
  rw [List.range_succ, List.filter_append, List.map_append]
  simp [h]
theorem occK_len (L P : List Nat) (k : Nat) : (occK L P k).length ≤ k := by
  unfold occK
  rw [List.length_map]
  exact Nat.le_trans (List.length_filter_le _ _) (by simp)
/-- What Occurs is to return. -/
def occV (L P : List Nat) : List Int := if L.length ≤ 300 then occK L P (L.length + 1) else []
theorem occV_len (L P : List Nat) : (occV L P).length ≤ 301 := by
  unfold occV
  split
  · exact Nat.le_trans (occK_len _ _ _) (by omega)
  · simp

theorem newI_any {w w' : World} {v : Value} {M : List Int} (h : ∃ A c, v = .slice A M.length c) (ho : w'.ownsRow w.heap.size 3 1 v M.length (M.map I)) (hb : Below w.heap.size w w') : NewI w M (.returned v) w' := by
  obtain ⟨A, c, rfl⟩ := h
  exact ⟨A, c, rfl, ho, hb⟩

set_option maxHeartbeats 800000 in
theorem implOccurs_any (A B : Option Addr) (c d : Nat) (L P : List Nat) (w : World) (hL : Lies w B8 A L) (hP : Lies w B8 B P) (hA : Tidy A c) (hB : Tidy B d) (hl : ∀ x ∈ L, x < 2 ^ 8) (hp : ∀ x ∈ P, x < 2 ^ 8) (hc : L.length ≤ c) :
    Calls Try.prog 27 #[.slice A L.length c, .slice B P.length d] w (NewI w (occV L P)) := by
  have HL := Lib.hid hL
  have HP := Lib.hid hP
  have HLb := Lib.hid hl
  have HPb := Lib.hid hp
  clear hL hP hl hp
  obtain ⟨n, hn⟩ : ∃ n, L.length = n := ⟨_, rfl⟩
  have Hn := Lib.hid hn
  by_cases h3 : n ≤ 300
  · have HV : Hid (occV L P = occK L P (n + 1)) := Lib.hid (by unfold occV; rw [hn, if_pos h3])
    have t3 : decide (n ≤ 300) = true := by simpa using h3
    rw [hn] at hc ⊢
    clear hn
    go_enter Try.func27, Try.ntmps27
    go_wp2_with fail
    refine (implTextOk_any A n c w).mono ?_
    rintro e w1 ⟨rfl, rfl⟩
    rw [t3]
    obtain ⟨m, hm⟩ : ∃ m, n + 1 = m := ⟨_, rfl⟩
    have hm2 : (n : Int) + 1 = (m : Int) := by omega
    rw [hm] at HV
    go_wp2
    go_loopw [5, 13] (fun v i wr => ∃ k : Nat, k ≤ m ∧ i = .int .i64 k ∧ Hid (wr.ownsRow w1.heap.size 3 1 v (occK L P k).length ((occK L P k).map I)) ∧ Hid (Below w1.heap.size w1 wr)) (fun _ i _ => m - (intOf i).toNat)
    case atStart => exact ⟨0, Nat.zero_le _, rfl, Lib.hid (World.ownsRow_nil _ _ _ _), Lib.hid (Below.refl _ _)⟩
    case round =>
      obtain ⟨k, hk, rfl, HO, HB⟩ := hrel
      by_cases hlt : k < m
      · obtain ⟨A1, hs1, hL1, hA1⟩ := slice_drop Try.elemBytes Try.sizeByte A n c L k wr Hn (HL.out.below HB.out) hA (by omega) hc
        have hk2 : ((L.drop k).length ≤ c - k) := by rw [List.length_drop, Hn.out]; omega
        have HC := Lib.hid (bPrefix A1 B (c - k) d (L.drop k) P wr hL1 (HP.out.below HB.out) hA1 hB (fun x hx => HLb.out x (List.mem_of_mem_drop hx)) HPb.out hk2)
        clear hL1 hA1 hk2
        have hol := occK_len L P k
        have HS := HB.out.size
        by_cases hy : (L.drop k).take P.length = P
        · have HE := Lib.hid (occK_yes hy)
          rw [decide_eq_true hy] at HC
          clear hy
          generalize L.drop k = D at *
          go_wp2_with fail
          refine HC.out.mono ?_
          rintro e w2 ⟨rfl, rfl⟩
          go_wp2_with (at_builtin; refine wpList_pushI rfl _ _ rfl w1.heap.size _ _ _ rfl HO.out (k : Int) rfl HS (by omega) _ HE.out ?_)
          intro A4 c4 w4 ho4 hg4
          have HO4 := Lib.hid ho4
          have HB4 := Lib.hid (HB.out.trans (grown_below HO.out hg4 (Nat.le_refl _) HS))
          clear ho4 hg4
          go_wp2
          go_roundw
          case rel => exact ⟨k + 1, by omega, by go_num, HO4, HB4⟩
          case measure => simp [intOf]; omega
        · have HE := Lib.hid (occK_no hy)
          rw [decide_eq_false hy] at HC
          clear hy
          generalize L.drop k = D at *
          go_wp2_with fail
          refine HC.out.mono ?_
          rintro e w2 ⟨rfl, rfl⟩
          go_wp2
          go_roundw
          case rel => exact ⟨k + 1, by omega, by go_num, by rw [← HE.out]; exact HO, HB⟩
          case measure => simp [intOf]; omega
      · obtain rfl : k = m := by omega
        rw [← HV.out] at HO
        go_wp2
        go_ret
        obtain ⟨A5, c5, rfl⟩ := own_slice HO.out
        exact ⟨A5, c5, rfl, HO.out, HB.out⟩
  · have HV : Hid (occV L P = []) := Lib.hid (by unfold occV; rw [hn, if_neg h3])
    have t3 : decide (n ≤ 300) = false := by simpa using h3
    rw [hn]
    clear hn
    go_enter Try.func27, Try.ntmps27
    go_wp2_with fail
    refine (implTextOk_any A n c w).mono ?_
    rintro e w1 ⟨rfl, rfl⟩
    rw [t3]
    go_wp2
    go_ret
    rw [HV.out]
    exact ⟨none, 0, rfl, World.ownsRow_nil _ _ _ _, Below.refl _ _⟩

end Go.Proofs.Ytlgnndfhpnbhmaa
