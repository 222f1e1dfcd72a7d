/- heldFrameS over marked frames . -/
import Derived.Test.YtlbnngolcoefdaaDoorFrs9
namespace Go.Proofs.YtlbnngolcoefdaaDoor
open Go.RowKit
set_option maxRecDepth 100000

set_option maxHeartbeats 1600000 in
theorem heldFrames_any (lo hi g d : Nat) (cs : Array Value) (Q : List FrV) (w : World) (h : FrsIn w lo hi g cs (mkF 1 Q)) (ht : totV Q ≤ 1048576) :
    Calls Tryd.prog 45 #[.slice (some ⟨g, 0, none⟩) Q.length d, .int .i64 1] w fun e w' => e = .returned (.int .i64 ((1 + totV Q : Nat) : Int)) ∧ w = w' := by
  have H0 := Lib.hid h
  clear h
  have hQl : Q.length ≤ 1048576 := Nat.le_trans (totV_le Q) ht
  go_enter Tryd.func45, Tryd.ntmps45
  go_wp2
  go_loop [1, 5] (fun k i => ∃ n m : Nat, n ≤ Q.length ∧ i = .int .i64 n ∧ k = .int .i64 m ∧ m ≤ 1 + totV Q ∧ Hid (m = 1 + totV (Q.take n)) ∧ m + totV (Q.drop n) = 1 + totV Q) (fun _ i => Q.length - (intOf i).toNat)
  case atStart => exact ⟨0, 1, Nat.zero_le _, rfl, rfl, by omega, Lib.hid rfl, by rw [List.drop_zero]⟩
  case round =>
    obtain ⟨n, m, hn, rfl, rfl, hmt, hMm, hm⟩ := hrel
    by_cases hlt : n < Q.length
    · obtain ⟨p, hp⟩ : ∃ p, Q[n]? = some p := ⟨Q[n], List.getElem?_eq_getElem hlt⟩
      have hnew := mkF_at Q 1 n p hp
      rw [← hMm.out] at hnew
      have htot := totV_at hp
      have htk := totV_take hp
      obtain ⟨c1, c2⟩ := H0.out.cells n _ hnew
      have y0 := (H0.out.box.cell (n * 2)).trans c1
      have y1 := (H0.out.box.cell (n * 2 + 1)).trans c2
      have hgl := H0.out.box.lt
      have hown := (H0.out.own n _ hnew).1
      simp only [FrV.body, List.length_map, List.length_range] at hown y1
      have HO := Lib.hid hown
      have tl : decide ((n : Int) < (Q.length : Int)) = true := by simp; omega
      have tm : ((m : Int) != (m : Int)) = false := by simp
      have HM2 : Hid (m + 1 + p.xs.length = 1 + totV (Q.take (n + 1))) := Lib.hid (by have := hMm.out; omega)
      clear c1 c2 hp hnew hown htk hMm
      go_wp2_with fail
      refine (heldByte p.A p.xs.length p.c ((m : Int) + 1) w (lies_marks HO.out) (by omega) (by omega) (by omega)).mono ?_
      rintro e w2 ⟨rfl, rfl⟩
      have e5 : (m : Int) + 1 + (p.xs.length : Int) = ((m + 1 + p.xs.length : Nat) : Int) := by omega
      rw [e5]
      obtain ⟨m2, hm2⟩ : ∃ m2, m + 1 + p.xs.length = m2 := ⟨_, rfl⟩
      rw [hm2] at HM2 ⊢
      have hm3 : m2 + totV (Q.drop (n + 1)) = 1 + totV Q := by omega
      have t2 : decide ((m2 : Int) < 0) = false := by simp
      clear e5 hm2 htot hm y0 y1 HO
      go_wp2
      go_round
      case rel => exact ⟨n + 1, m2, by omega, by go_num, rfl, by omega, HM2, hm3⟩
      case measure => simp [intOf]; omega
    · have hn2 : n = Q.length := by omega
      have hmm : m = 1 + totV Q := by
        rw [hn2, List.drop_length] at hm
        simp only [totV] at hm
        omega
      clear hMm hm
      go_wp2
      go_ret
      exact ⟨rfl, rfl⟩

set_option maxHeartbeats 400000 in
theorem heldNil (A : Option Addr) (d : Nat) (w : World) : Calls Tryd.prog 45 #[.slice A 0 d, .int .i64 1] w fun e w' => e = .returned (.int .i64 1) ∧ w = w' := by
  go_enter Tryd.func45, Tryd.ntmps45
  go_wp2
  refine wp_loop_rounds 1 ?_
  rw [rounds_succ]
  go_wp2
  go_ret
  exact ⟨rfl, rfl⟩
theorem heldL {w : World} {lo hi : Nat} {v : Value} {Q : List FrV} (h : FrsMk w lo hi v Q) (ht : totV Q ≤ 1048576) :
    Calls Tryd.prog 45 #[v, .int .i64 1] w fun e w' => e = .returned (.int .i64 ((1 + totV Q : Nat) : Int)) ∧ w = w' := by
  rcases h with ⟨rfl, A, d, rfl⟩ | ⟨g, d, cs, rfl, hin⟩
  · exact (heldNil A d w).mono fun _ _ h => h
  · exact heldFrames_any lo hi g d cs Q w hin ht
/-- What a row of bytes is written to. -/
theorem inside_row {lo hi base n : Nat} {w w' : World} {v : Value} {xs : List Value} (h : w.ownsRow base 5 1 v n xs) (hlo : lo ≤ base) (hhi : ∀ k, v.ownBlock = some k → k < hi) (hg : w.grownBy w' v.ownBlock) : Inside lo hi w w' :=
  ⟨hg.os, hg.tape, hg.output, hg.size, fun k hk hc => hg.block k hk fun e => by
    have h1 := (own_kind h e.symm).1
    have h2 := hhi k e.symm
    omega⟩

end Go.Proofs.YtlbnngolcoefdaaDoor
