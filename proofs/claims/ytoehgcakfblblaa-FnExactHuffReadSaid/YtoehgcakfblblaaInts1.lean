/- Contracts of the laws' own comparisons, marks and tests of lists of numbers. -/
import Derived.Test.YtoehgcakfblblaaProg
import Derived.Test.YtoehgcakfblblaaLaws2
namespace Go.Proofs.Ytoehgcakfblblaa
open Go.RowKit
set_option maxRecDepth 100000

set_option maxHeartbeats 400000 in
theorem eqInt_len (A B : Option Addr) (n m c d : Nat) (w : World) (h : n ≠ m) :
    Calls Try.prog 24 #[.slice A n c, .slice B m d] w fun e w' => e = .returned (.bool false) ∧ w = w' := by
  have h1 : (n != m) = true := by simpa using h
  have h2 : ((n : Int) != (m : Int)) = true := by rw [bne_iff_ne]; omega
  have h3 : ¬ ((n : Int) = (m : Int)) := by omega
  go_enter Try.func24, Try.ntmps24
  go_wp2
  go_ret
  exact ⟨rfl, rfl⟩

set_option maxHeartbeats 400000 in
theorem eqInt_same (A B : Option Addr) (n c d : Nat) (L M : List Int) (w : World) (hL : Lies w I A L) (hM : Lies w I B M) (hl : L.length = n) (hm : M.length = n) (hn : n ≤ 17592186044416) :
    Calls Try.prog 24 #[.slice A n c, .slice B n d] w fun e w' => e = .returned (.bool (decide (L = M))) ∧ Drawn w w' := by
  have HL := Lib.hid hl
  have HM := Lib.hid hm
  clear hl hm
  go_enter Try.func24, Try.ntmps24
  go_wp2
  go_loopw [5] (fun i wr => ∃ k : Nat, k ≤ n ∧ i = .int .i64 k ∧ L.take k = M.take k ∧ Drawn w wr) (fun i _ => n - (intOf i).toNat)
  case atStart => exact ⟨0, Nat.zero_le _, rfl, by simp, Drawn.refl _⟩
  case round =>
    obtain ⟨k, hk, rfl, htk, m, rfl⟩ := hrel
    have HT := Lib.hid htk
    clear htk
    by_cases hlt : k < n
    · obtain ⟨b, o, x, rfl, hbl, hx, hc⟩ := hL.at_ (i := k) (by rw [HL.out]; exact hlt)
      obtain ⟨b', o', y, rfl, hbl', hy, hc'⟩ := hM.at_ (i := k) (by rw [HM.out]; exact hlt)
      have HX := Lib.hid hx
      have HY := Lib.hid hy
      clear hx hy hL hM
      by_cases hxy : x = y
      · subst hxy
        go_wp2
        go_quiet (fail)
        go_wp2
        go_roundw
        case rel => exact ⟨k + 1, by omega, by go_num, take_same_succ HT.out HX.out HY.out, ⟨_, rfl⟩⟩
        case measure => simp [intOf]; omega
      · have hne : (x != y) = true := by simpa using hxy
        have HF := Lib.hid (decide_eq_false (ne_of_at HX.out HY.out hxy))
        go_wp2
        go_quiet (fail)
        go_wp2
        go_ret
        exact ⟨ret_bool HF.out.symm, Drawn.two _ _ _⟩
    · go_wp2
      go_ret
      have e : L = M := by
        have h := HT.out
        rwa [List.take_of_length_le (by rw [HL.out]; omega), List.take_of_length_le (by rw [HM.out]; omega)] at h
      exact ⟨ret_bool (decide_eq_true e).symm, ⟨_, rfl⟩⟩

theorem eqInt (A B : Option Addr) (c d : Nat) (L M : List Int) (w : World) (hL : Lies w I A L) (hM : Lies w I B M) (hn : L.length ≤ 17592186044416) :
    Calls Try.prog 24 #[.slice A L.length c, .slice B M.length d] w fun e w' => e = .returned (.bool (decide (L = M))) ∧ Drawn w w' := by
  by_cases h : L.length = M.length
  · rw [← h]
    exact eqInt_same A B L.length c d L M w hL hM rfl h.symm hn
  · refine (eqInt_len A B L.length M.length c d w h).mono fun e w' ⟨he, hw⟩ => ⟨?_, by rw [← hw]; exact Drawn.refl _⟩
    rw [he, decide_eq_false (fun e => h (by rw [e]))]

/-- What a list holds after m rounds of being marked from k on. -/
def marked (f : Int → Value) (k : Int) (xs : List Value) (m : Nat) : List Value := (List.range m).map (fun (j : Nat) => f (k + j)) ++ xs.drop m
theorem marked_zero (f : Int → Value) (k : Int) (xs : List Value) : marked f k xs 0 = xs := by simp [marked]
theorem marked_all (f : Int → Value) (k : Int) (xs : List Value) (n : Nat) (h : xs.length = n) : marked f k xs n = (List.range n).map (fun (j : Nat) => f (k + j)) := by
  subst h; simp [marked]
theorem marked_succ (f : Int → Value) (k : Int) (xs : List Value) (m : Nat) (h : m < xs.length) : marked f k xs (m + 1) = (marked f k xs m).set m (f (k + m)) := by
  unfold marked
  rw [List.set_append_right _ _ (by simp), List.length_map, List.length_range, Nat.sub_self, List.range_succ, List.map_append, List.drop_eq_getElem_cons h, List.set_cons_zero]
  simp
theorem marked_get (f : Int → Value) (k : Int) (xs : List Value) (m : Nat) (h : m < xs.length) : ∃ u, (marked f k xs m)[m]? = some u := by
  refine ⟨xs[m], ?_⟩
  unfold marked
  rw [List.getElem?_append_right (by simp), List.length_map, List.length_range, Nat.sub_self, List.drop_eq_getElem_cons h]
  rfl

set_option maxHeartbeats 400000 in
theorem markInt (A : Option Addr) (n c base : Nat) (k : Int) (xs : List Value) (w : World) (ho : w.ownsRow base 3 1 (.slice A n c) n xs) (hn : n ≤ 1048576) (hk0 : 0 ≤ k) (hk1 : k ≤ 1048576) :
    Calls Try.prog 25 #[.slice A n c, .int .i64 k] w fun e w' => e = .returned (.int .i64 (k + n)) ∧
      w'.ownsRow base 3 1 (.slice A n c) n ((List.range n).map fun (j : Nat) => I (k + j)) ∧ w.grownBy w' (Value.slice A n c).ownBlock := by
  have hlen : xs.length = n := by have := ho.1; omega
  have HL := Lib.hid hlen
  have HO := Lib.hid ho
  clear hlen ho
  go_enter Try.func25, Try.ntmps25
  go_wp2
  go_loopw [1, 5] (fun q i wr => ∃ m : Nat, m ≤ n ∧ i = .int .i64 m ∧ q = .int .i64 (k + m) ∧ wr.ownsRow base 3 1 (.slice A n c) n (marked I k xs m) ∧ w.grownBy wr (Value.slice A n c).ownBlock) (fun _ i _ => n - (intOf i).toNat)
  case atStart => exact ⟨0, Nat.zero_le _, rfl, by simp, by rw [marked_zero]; exact HO.out, World.grownBy.refl _ _⟩
  case round =>
    obtain ⟨m, hm, rfl, rfl, hown, hg⟩ := hrel
    by_cases hlt : m < n
    · obtain ⟨g, cap, hv, _, _⟩ := hown.form (by omega)
      injection hv with hA _ hc
      subst hA hc
      obtain ⟨u, hu⟩ := marked_get I k xs m (by rw [HL.out]; exact hlt)
      have hd := (hown.cellAt m (by omega)).trans hu
      have hf := hown.frozenAt m
      have hst := hown.stored m (I (k + m))
      have HS := Lib.hid hst.1
      have HG := Lib.hid (hg.trans hst.2)
      have HX := Lib.hid (marked_succ I k xs m (by rw [HL.out]; exact hlt))
      clear hown hg hu hst
      go_wp2
      go_roundw
      case rel => exact ⟨m + 1, by omega, by go_num, by go_num, by rw [HX.out]; exact HS.out, HG.out⟩
      case measure => simp [intOf]; omega
    · go_wp2
      go_ret
      have e : m = n := by omega
      subst e
      rw [marked_all _ _ _ _ HL.out] at hown
      exact ⟨rfl, hown, hg⟩

set_option maxHeartbeats 400000 in
theorem heldInt (A : Option Addr) (n c : Nat) (k : Int) (w : World) (hL : Lies w I A ((List.range n).map fun (j : Nat) => k + (j : Int))) (hn : n ≤ 1048576) (hk0 : 0 ≤ k) (hk1 : k ≤ 1048576) :
    Calls Try.prog 42 #[.slice A n c, .int .i64 k] w fun e w' => e = .returned (.int .i64 (k + n)) ∧ w = w' := by
  go_enter Try.func42, Try.ntmps42
  go_wp2
  go_loop [1, 5] (fun q i => ∃ m : Nat, m ≤ n ∧ i = .int .i64 m ∧ q = .int .i64 (k + m)) (fun _ i => n - (intOf i).toNat)
  case atStart => exact ⟨0, Nat.zero_le _, rfl, by simp⟩
  case round =>
    obtain ⟨m, hm, rfl, rfl⟩ := hrel
    by_cases hlt : m < n
    · obtain ⟨b, o, x, rfl, _, hx, hc⟩ := hL.at_ (i := m) (by simp; exact hlt)
      have hx' : x = k + (m : Int) := by simp [hlt] at hx; exact hx.symm
      subst hx'
      clear hL hx
      go_wp2
      go_round
      case rel => exact ⟨m + 1, by omega, by go_num, by go_num⟩
      case measure => simp [intOf]; omega
    · go_wp2
      go_ret
      have e : m = n := by omega
      subst e
      exact ⟨rfl, rfl⟩

end Go.Proofs.Ytoehgcakfblblaa
