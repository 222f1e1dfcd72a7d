/- Occurs of the specification. -/
import Derived.Test.YtlgnndfhpnbhmaaSf4
namespace Go.Proofs.Ytlgnndfhpnbhmaa
open Go.RowKit
set_option maxRecDepth 100000

set_option maxHeartbeats 800000 in
theorem specOccurs_any (A B : Option Addr) (c d : Nat) (L P : List Nat) (w : World) (hL : Lies w B8 A L) (hP : Lies w B8 B P) (hA : Tidy A c) (hB : Tidy B d) (hl : ∀ x ∈ L, x < 2 ^ 8) (hp : ∀ x ∈ P, x < 2 ^ 8) (hc : L.length ≤ c) :
    Calls Try.prog 39 #[.slice A L.length c, .slice B P.length d] w (NewI w (occV L P)) := by
  have HL := Lib.hid hL
  have HP := Lib.hid hP
  have HLb := Lib.hid hl
  have HPb := Lib.hid hp
  clear hL hP hl hp
  obtain ⟨n, hn⟩ : ∃ n, L.length = n := ⟨_, rfl⟩
  have Hn := Lib.hid hn
  have hO0 : (w.alloc (Obj.cells #[] 3)).ownsRow w.heap.size 3 1 (.slice (some ⟨w.heap.size, 0, none⟩) 0 0) ([] : List Int).length (([] : List Int).map I) := World.ownsRow_lit w _ _ (Nat.le_refl _) (show 0 ≤ maxLen by decide) rfl
  have HO0 := Lib.hid hO0
  have HB0 : Hid (Below w.heap.size w (w.alloc (Obj.cells #[] 3))) := Lib.hid ((Below.refl _ _).alloc (Nat.le_refl _) _)
  clear hO0
  by_cases h3 : n ≤ 300
  · have HV : Hid (occV L P = occK L P (n + 1)) := Lib.hid (by unfold occV; rw [hn, if_pos h3])
    have t3 : decide (n ≤ 300) = true := by simpa using h3
    rw [hn] at hc ⊢
    clear hn
    go_enter Try.func39, Try.ntmps39
    go_wp2_with fail
    generalize w.alloc (Obj.cells #[] 3) = w0 at *
    go_loopw [5, 6] (fun v i wr => ∃ k : Nat, k ≤ n + 1 ∧ i = .int .i64 k ∧ Hid (wr.ownsRow w.heap.size 3 1 v (occK L P k).length ((occK L P k).map I)) ∧ Hid (Below w.heap.size w wr)) (fun _ i _ => n + 1 - (intOf i).toNat)
    case atStart => exact ⟨0, Nat.zero_le _, rfl, HO0, HB0⟩
    case round =>
      obtain ⟨k, hk, rfl, HO, HB⟩ := hrel
      clear HO0 HB0
      go_wp2_with fail
      refine (specTextOk_any A n c wr).mono ?_
      rintro e w1 ⟨rfl, rfl⟩
      rw [t3]
      by_cases hlt : k ≤ n
      · obtain ⟨A1, hs1, hL1, hA1⟩ := slice_drop Try.elemBytes Try.sizeByte A n c L k w1 Hn (HL.out.below HB.out) hA (by omega) hc
        have hk2 : ((L.drop k).length ≤ c - k) := by rw [List.length_drop, Hn.out]; omega
        have HC := Lib.hid (specBegins A1 B (c - k) d (L.drop k) P w1 hL1 (HP.out.below HB.out) hA1 hB (fun x hx => HLb.out x (List.mem_of_mem_drop hx)) HPb.out hk2)
        clear hL1 hA1 hk2
        have hol := occK_len L P k
        have HS := HB.out.size
        have tk : decide ((k : Int) ≤ (n : Int)) = true := by simp; omega
        by_cases hy : (L.drop k).take P.length = P
        · have HE := Lib.hid (occK_yes hy)
          rw [decide_eq_true hy] at HC
          clear hy
          generalize L.drop k = D at *
          go_wp2_with fail
          refine HC.out.mono ?_
          rintro e w2 ⟨rfl, q, rfl⟩
          go_wp2_with (at_builtin; refine wpList_pushI rfl _ _ rfl w.heap.size _ _ _ rfl HO.out (k : Int) rfl HS (by omega) _ HE.out ?_)
          intro A4 c4 w4 ho4 hg4
          have HO4 := Lib.hid ho4
          have HB4 := Lib.hid ((below_dN HB.out q).trans (grown_below HO.out hg4 (Nat.le_refl _) HS))
          clear ho4 hg4
          go_wp2
          go_roundw
          case rel => exact ⟨k + 1, by omega, by go_num, HO4, HB4⟩
          case measure => simp [intOf]; omega
        · have HE := Lib.hid (occK_no hy)
          rw [decide_eq_false hy] at HC
          clear hy
          generalize L.drop k = D at *
          go_wp2_with fail
          refine HC.out.mono ?_
          rintro e w2 ⟨rfl, q, rfl⟩
          have HBq := Lib.hid (below_dN HB.out q)
          go_wp2
          go_roundw
          case rel => exact ⟨k + 1, by omega, by go_num, by rw [← HE.out]; exact HO, HBq⟩
          case measure => simp [intOf]; omega
      · obtain rfl : k = n + 1 := by omega
        have tk : decide (((n + 1 : Nat) : Int) ≤ (n : Int)) = false := by simp; omega
        rw [← HV.out] at HO
        go_wp2
        go_ret
        obtain ⟨A5, c5, rfl⟩ := own_slice HO.out
        exact ⟨A5, c5, rfl, HO.out, HB.out⟩
  · have HV : Hid (occV L P = []) := Lib.hid (by unfold occV; rw [hn, if_neg h3])
    have t3 : decide (n ≤ 300) = false := by simpa using h3
    rw [hn]
    clear hn
    go_enter Try.func39, Try.ntmps39
    go_wp2_with fail
    generalize w.alloc (Obj.cells #[] 3) = w0 at *
    go_loopw [5, 6] (fun v i wr => v = .slice (some ⟨w.heap.size, 0, none⟩) 0 0 ∧ wr = w0) (fun _ i _ => 0)
    case atStart => exact ⟨rfl, rfl⟩
    case round =>
      obtain ⟨rfl, rfl⟩ := hrel
      go_wp2_with fail
      refine (specTextOk_any A n c wr).mono ?_
      rintro e w1 ⟨rfl, rfl⟩
      rw [t3]
      go_wp2
      go_ret
      rw [HV.out]
      exact ⟨_, _, rfl, HO0.out, HB0.out⟩

end Go.Proofs.Ytlgnndfhpnbhmaa
