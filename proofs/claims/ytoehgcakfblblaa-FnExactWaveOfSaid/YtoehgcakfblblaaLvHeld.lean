/- heldBitsS over marked lists of bit vectors (after FrsHeld). -/
import Derived.Test.YtoehgcakfblblaaLv9
import Derived.Test.YtoehgcakfblblaaWords2
namespace Go.Proofs.Ytoehgcakfblblaa
open Go.RowKit
set_option maxRecDepth 100000

set_option maxHeartbeats 1600000 in
theorem heldLvs_any (m0 : Nat) (lo hi g d : Nat) (cs : Array Value) (Q : List LvV) (w : World) (h : LvIn w lo hi g cs (mkL m0 Q)) (hm0 : m0 + totW Q ≤ 1048576) :
    Calls Try.prog 71 #[.slice (some ⟨g, 0, none⟩) Q.length d, .int .i64 m0] w fun e w' => e = .returned (.int .i64 ((m0 + totW Q : Nat) : Int)) ∧ w = w' := by
  have H0 := Lib.hid h
  clear h
  have hQl : Q.length ≤ 1048576 := Nat.le_trans (totW_le Q) (by omega)
  go_enter Try.func71, Try.ntmps71
  go_wp2
  go_loop [1, 5] (fun k i => ∃ n m : Nat, n ≤ Q.length ∧ i = .int .i64 n ∧ k = .int .i64 m ∧ m ≤ m0 + totW Q ∧ Hid (m = m0 + totW (Q.take n)) ∧ m + totW (Q.drop n) = m0 + totW Q) (fun _ i => Q.length - (intOf i).toNat)
  case atStart => exact ⟨0, m0, Nat.zero_le _, rfl, rfl, by omega, Lib.hid rfl, by rw [List.drop_zero]⟩
  case round =>
    obtain ⟨n, m, hn, rfl, rfl, hmt, hMm, hm⟩ := hrel
    by_cases hlt : n < Q.length
    · obtain ⟨p, hp⟩ : ∃ p, Q[n]? = some p := ⟨Q[n], List.getElem?_eq_getElem hlt⟩
      have hnew := mkL_at Q m0 n p hp
      rw [← hMm.out] at hnew
      have htot := totW_at hp
      have htk := totW_take hp
      obtain ⟨c1, c2⟩ := H0.out.cells n _ hnew
      have y0 := (H0.out.box.cell (n * 2)).trans c1
      have y1 := (H0.out.box.cell (n * 2 + 1)).trans c2
      have hgl := H0.out.box.lt
      have hown := (H0.out.own n _ hnew).1
      simp only [LvV.body, List.length_map, List.length_range] at hown y1
      have HO := Lib.hid hown
      have tl : decide ((n : Int) < (Q.length : Int)) = true := by simp; omega
      have tm : ((m : Int) != (m : Int)) = false := by simp
      have HM2 : Hid (m + 1 + p.xs.length = m0 + totW (Q.take (n + 1))) := Lib.hid (by have := hMm.out; omega)
      clear c1 c2 hp hnew hown htk hMm
      go_wp2_with fail
      refine (heldU64 p.A p.xs.length p.c ((m : Int) + 1) w (lies_ints HO.out) (by omega) (by omega) (by omega)).mono ?_
      rintro e w2 ⟨rfl, rfl⟩
      have e5 : (m : Int) + 1 + (p.xs.length : Int) = ((m + 1 + p.xs.length : Nat) : Int) := by omega
      rw [e5]
      obtain ⟨m2, hm2⟩ : ∃ m2, m + 1 + p.xs.length = m2 := ⟨_, rfl⟩
      rw [hm2] at HM2 ⊢
      have hm3 : m2 + totW (Q.drop (n + 1)) = m0 + totW Q := by omega
      have t2 : decide ((m2 : Int) < 0) = false := by simp
      clear e5 hm2 htot hm y0 y1 HO
      go_wp2
      go_round
      case rel => exact ⟨n + 1, m2, by omega, by go_num, rfl, by omega, HM2, hm3⟩
      case measure => simp [intOf]; omega
    · have hn2 : n = Q.length := by omega
      have hmm : m = m0 + totW Q := by
        rw [hn2, List.drop_length] at hm
        simp only [totW] at hm
        omega
      clear hMm hm
      go_wp2
      go_ret
      exact ⟨rfl, rfl⟩

set_option maxHeartbeats 400000 in
theorem heldNilV (m0 : Nat) (A : Option Addr) (d : Nat) (w : World) : Calls Try.prog 71 #[.slice A 0 d, .int .i64 m0] w fun e w' => e = .returned (.int .i64 m0) ∧ w = w' := by
  go_enter Try.func71, Try.ntmps71
  go_wp2
  refine wp_loop_rounds 1 ?_
  rw [rounds_succ]
  go_wp2
  go_ret
  exact ⟨rfl, rfl⟩

end Go.Proofs.Ytoehgcakfblblaa
