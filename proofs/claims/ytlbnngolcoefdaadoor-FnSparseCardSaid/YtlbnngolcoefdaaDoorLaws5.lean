import Derived.Test.YtlbnngolcoefdaaDoorProg
import Derived.Test.YtlbnngolcoefdaaDoorMem3
/- Contracts of the laws' own copies and comparisons of lists of numbers. -/
namespace Go.Proofs.YtlbnngolcoefdaaDoor
open Go.RowKit
set_option maxRecDepth 100000

theorem Tryd.infoU64 : (Tryd.prog.info? 113).map (fun i => (i.zero, i.size, i.bytes)) = some (some (.int .u64 0), 1, 8) := by kernel_rfl
theorem Tryd.infoInt : (Tryd.prog.info? 3).map (fun i => (i.zero, i.size, i.bytes)) = some (some (.int .i64 0), 1, 8) := by kernel_rfl

set_option maxHeartbeats 400000 in
theorem toU64 (A : Option Addr) (c : Nat) (L : List Nat) (w : World) (hL : Lies w U A L) (hn : L.length ≤ 17592186044416) :
    Calls Tryd.prog 117 #[.slice A L.length c] w fun e w' => e = .returned (.slice (some ⟨w.heap.size, 0, none⟩) L.length L.length) ∧
      w'.ownsRow w.heap.size 113 1 (.slice (some ⟨w.heap.size, 0, none⟩) L.length L.length) L.length (L.map U) ∧ Below w.heap.size w w' := by
  have hmk := fun W => run_make_row' (P := Tryd.prog) 27 113 (.int .u64 0) 8 Tryd.underlying27 Tryd.infoU64 rfl .i64 .i64 L.length (by omega) (by omega) W
  go_enter Tryd.func117, Tryd.ntmps117
  go_wp2
  go_loopw [4] (fun i wr => ∃ k : Nat, k ≤ L.length ∧ i = .int .i64 k ∧ wr.ownsRow w.heap.size 113 1 (.slice (some ⟨w.heap.size, 0, none⟩) L.length L.length) L.length (copied U (U 0) L k) ∧ Below w.heap.size w wr) (fun i _ => L.length - (intOf i).toNat)
  case atStart =>
    refine ⟨0, Nat.zero_le _, rfl, ?_, (Below.refl _ _).alloc (Nat.le_refl _) _⟩
    rw [copied_zero, ← toList_madeCells_one]
    exact World.ownsRow_lit w _ _ (Nat.le_refl _) (by unfold maxLen; omega) (by simp [size_madeCells])
  case round =>
    obtain ⟨k, hk, rfl, hown, hb⟩ := hrel
    clear hmk
    by_cases hlt : k < L.length
    · obtain ⟨b, o, x, rfl, hbl, hx, hc⟩ := hL.at_ hlt
      have hc' : wr.cell? ⟨b, o + k, none⟩ = some (.int .u64 x) := (hb.cell (p := ⟨b, o + k, none⟩) hbl).trans hc
      have hd : wr.cell? ⟨w.heap.size, k, none⟩ = some (.int .u64 0) := (hown.cellAt k (by omega)).trans (copied_get _ _ _ hlt)
      have hf := hown.frozenAt k
      have HS := Lib.hid (hown.stored k (.int .u64 x)).1
      have HB := Lib.hid (hb.setCell (p := ⟨w.heap.size, k, none⟩) (Nat.le_refl _) (.int .u64 x))
      have HX := Lib.hid (copied_succ (f := U) (U 0) L k x hx)
      clear hx hc hown hb
      go_wp2
      go_roundw
      case rel => exact ⟨k + 1, by omega, by go_num, by rw [HX.out]; exact HS.out, HB.out⟩
      case measure => simp [intOf]; omega
    · go_wp2
      go_ret
      have e : k = L.length := by omega
      subst e
      rw [copied_all] at hown
      exact ⟨rfl, hown, hb⟩

end Go.Proofs.YtlbnngolcoefdaaDoor

/- Contracts of the laws' own comparisons of lists of numbers. -/
namespace Go.Proofs.YtlbnngolcoefdaaDoor
open Go.RowKit
set_option maxRecDepth 100000

set_option maxHeartbeats 400000 in
theorem eqU64_len (A B : Option Addr) (n m c d : Nat) (w : World) (h : n ≠ m) :
    Calls Tryd.prog 118 #[.slice A n c, .slice B m d] w fun e w' => e = .returned (.bool false) ∧ w = w' := by
  have h1 : (n != m) = true := by simpa using h
  have h2 : ((n : Int) != (m : Int)) = true := by rw [bne_iff_ne]; omega
  have h3 : ¬ ((n : Int) = (m : Int)) := by omega
  go_enter Tryd.func118, Tryd.ntmps118
  go_wp2
  go_ret
  exact ⟨rfl, rfl⟩

set_option maxHeartbeats 400000 in
theorem eqU64_same (A B : Option Addr) (n c d : Nat) (L M : List Nat) (w : World) (hL : Lies w U A L) (hM : Lies w U B M) (hl : L.length = n) (hm : M.length = n) (hn : n ≤ 17592186044416) :
    Calls Tryd.prog 118 #[.slice A n c, .slice B n d] w fun e w' => e = .returned (.bool (decide (L = M))) ∧ Drawn w w' := by
  have HL := Lib.hid hl
  have HM := Lib.hid hm
  clear hl hm
  go_enter Tryd.func118, Tryd.ntmps118
  go_wp2
  go_loopw [5] (fun i wr => ∃ k : Nat, k ≤ n ∧ i = .int .i64 k ∧ L.take k = M.take k ∧ Drawn w wr) (fun i _ => n - (intOf i).toNat)
  case atStart => exact ⟨0, Nat.zero_le _, rfl, by simp, Drawn.refl _⟩
  case round =>
    obtain ⟨k, hk, rfl, htk, m, rfl⟩ := hrel
    have HT := Lib.hid htk
    clear htk
    by_cases hlt : k < n
    · obtain ⟨b, o, x, rfl, hbl, hx, hc⟩ := hL.at_ (i := k) (by rw [HL.out]; exact hlt)
      obtain ⟨b', o', y, rfl, hbl', hy, hc'⟩ := hM.at_ (i := k) (by rw [HM.out]; exact hlt)
      have HX := Lib.hid hx
      have HY := Lib.hid hy
      clear hx hy hL hM
      by_cases hxy : x = y
      · subst hxy
        go_wp2
        go_quiet (fail)
        go_wp2
        go_roundw
        case rel => exact ⟨k + 1, by omega, by go_num, take_same_succ HT.out HX.out HY.out, ⟨_, rfl⟩⟩
        case measure => simp [intOf]; omega
      · have hne : (x != y) = true := by simpa using hxy
        have hne2 : ((x : Int) != (y : Int)) = true := by rw [bne_iff_ne]; omega
        have hne3 : ¬ ((x : Int) = (y : Int)) := by omega
        have HF := Lib.hid (decide_eq_false (ne_of_at HX.out HY.out hxy))
        go_wp2
        go_quiet (fail)
        go_wp2
        go_ret
        exact ⟨ret_bool HF.out.symm, Drawn.two _ _ _⟩
    · go_wp2
      go_ret
      have e : L = M := by
        have h := HT.out
        rwa [List.take_of_length_le (by rw [HL.out]; omega), List.take_of_length_le (by rw [HM.out]; omega)] at h
      exact ⟨ret_bool (decide_eq_true e).symm, ⟨_, rfl⟩⟩

theorem eqU64 (A B : Option Addr) (c d : Nat) (L M : List Nat) (w : World) (hL : Lies w U A L) (hM : Lies w U B M) (hn : L.length ≤ 17592186044416) :
    Calls Tryd.prog 118 #[.slice A L.length c, .slice B M.length d] w fun e w' => e = .returned (.bool (decide (L = M))) ∧ Drawn w w' := by
  by_cases h : L.length = M.length
  · rw [← h]
    exact eqU64_same A B L.length c d L M w hL hM rfl h.symm hn
  · refine (eqU64_len A B L.length M.length c d w h).mono fun e w' ⟨he, hw⟩ => ⟨?_, by rw [← hw]; exact Drawn.refl _⟩
    rw [he, decide_eq_false (fun e => h (by rw [e]))]

end Go.Proofs.YtlbnngolcoefdaaDoor

/- Contracts of the laws' own small helpers on lists of numbers. -/
namespace Go.Proofs.YtlbnngolcoefdaaDoor
open Go.RowKit
set_option maxRecDepth 100000

set_option maxHeartbeats 400000 in
theorem szU64 (A : Option Addr) (n c : Nat) (left : Int) (w : World) (hn : n ≤ 9223372036854775807) (h0 : 0 ≤ left) (h1 : left ≤ 1048576) :
    Calls Tryd.prog 114 #[.slice A n c, .int .i64 left] w fun e w' => e = .returned (.int .i64 (if left < n then -1 else left - n)) ∧ w = w' := by
  by_cases h : left < (n : Int)
  · rw [if_pos h]
    go_enter Tryd.func114, Tryd.ntmps114
    go_wp2
    go_ret
    exact ⟨rfl, rfl⟩
  · rw [if_neg h]
    go_enter Tryd.func114, Tryd.ntmps114
    go_wp2
    go_ret
    exact ⟨rfl, rfl⟩

end Go.Proofs.YtlbnngolcoefdaaDoor

/- Contracts of the laws' own copies and comparisons of bit vectors. -/
namespace Go.Proofs.YtlbnngolcoefdaaDoor
open Go.RowKit
set_option maxRecDepth 100000

set_option maxHeartbeats 400000 in
theorem szBits_any (N : Int) (A : Option Addr) (n c : Nat) (left : Int) (w : World) (hn : n ≤ 9223372036854775807) (h0 : 0 ≤ left) (h1 : left ≤ 1048576) :
    Calls Tryd.prog 79 #[.agg #[.int .i64 N, .slice A n c], .int .i64 left] w fun e w' => e = .returned (.int .i64 (if left < n then -1 else left - n)) ∧ Below w.heap.size w w' := by
  by_cases h : left < (n : Int)
  · have c1 := fun W => szU64 A n c left W hn h0 h1
    rw [if_pos h]
    simp only [if_pos h] at c1
    have C := Lib.hid c1
    clear c1
    go_enter Tryd.func79, Tryd.ntmps79
    go_wp2_with (go_at_call 114; refine (C.out _).mono ?_; rintro e w' ⟨rfl, rfl⟩)
    go_ret
    exact ⟨rfl, (Below.refl _ _).alloc (Nat.le_refl _) _⟩
  · have c1 := fun W => szU64 A n c left W hn h0 h1
    rw [if_neg h]
    simp only [if_neg h] at c1
    have C := Lib.hid c1
    clear c1
    go_enter Tryd.func79, Tryd.ntmps79
    go_wp2_with (go_at_call 114; refine (C.out _).mono ?_; rintro e w' ⟨rfl, rfl⟩)
    go_ret
    exact ⟨rfl, (Below.refl _ _).alloc (Nat.le_refl _) _⟩

end Go.Proofs.YtlbnngolcoefdaaDoor

/- Contracts of the laws' own copies and comparisons of bit vectors. -/
namespace Go.Proofs.YtlbnngolcoefdaaDoor
open Go.RowKit
set_option maxRecDepth 100000

set_option maxHeartbeats 400000 in
theorem toBits_any (N : Int) (A : Option Addr) (c : Nat) (L : List Nat) (w : World) (hL : Lies w U A L) (hn : L.length ≤ 17592186044416) :
    Calls Tryd.prog 82 #[.agg #[.int .i64 N, .slice A L.length c]] w fun e w' => e = .returned (.agg #[.int .i64 N, .slice (some ⟨w.heap.size + 3, 0, none⟩) L.length L.length]) ∧
      w'.ownsRow w.heap.size 113 1 (.slice (some ⟨w.heap.size + 3, 0, none⟩) L.length L.length) L.length (L.map U) ∧ Below w.heap.size w w' := by
  go_enter Tryd.func82, Tryd.ntmps82
  go_wp2_with fail
  refine (toU64 A c L _ (hL.below ((((Below.refl _ _).alloc (by simp) _).alloc (by simp) _).alloc (by simp; omega) _)) hn).mono ?_
  rintro e w1 ⟨rfl, hown, hb⟩
  obtain ⟨hc, hf⟩ := bcell hb
  have hz : w.heap.size + 3 ≤ w1.heap.size := by have := hb.size; simp at this; omega
  have HO := Lib.hid hown
  have HB := Lib.hid hb
  clear hown hb hL
  go_wp2
  refine bodyPost_ret (v := .agg #[.int .i64 N, .slice (some ⟨w.heap.size + 3, 0, none⟩) L.length L.length]) (by simp [results, Tryd.results82, go_sem, hc, hz]) rfl ⟨rfl, ?_, ?_⟩
  · have h := HO.out
    simp only [World.size_alloc] at h
    exact own_mono (ownsRow_setCell_below (ownsRow_setCell_below (ownsRow_setCell_below h (by go_size) _) (by go_size) _) (by go_size) _) (by go_size)
  · refine Below.setCell (Below.setCell (Below.setCell (Below.trans ?_ (HB.out.mono (by go_size))) (by go_size) _) (by go_size) _) (by go_size) _
    go_grown

set_option maxHeartbeats 400000 in
theorem eqBits_any (N M : Int) (A B : Option Addr) (c d : Nat) (L K : List Nat) (w : World) (hL : Lies w U A L) (hK : Lies w U B K) (hn : L.length ≤ 17592186044416) :
    Calls Tryd.prog 84 #[.agg #[.int .i64 N, .slice A L.length c], .agg #[.int .i64 M, .slice B K.length d]] w fun e w' => e = .returned (.bool (decide (N = M ∧ L = K))) ∧ Below w.heap.size w w' := by
  by_cases hNM : N = M
  · subst hNM
    go_enter Tryd.func84, Tryd.ntmps84
    go_wp2_with fail
    refine (eqU64 A B c d L K _ (hL.below (by go_grown)) (hK.below (by go_grown)) hn).mono ?_
    rintro e w1 ⟨rfl, n, rfl⟩
    clear hL hK
    cases hb : decide (L = K)
    · have HF := Lib.hid hb
      clear hb
      go_wp2
      go_ret
      refine ⟨ret_bool (decide_eq_false (fun h => of_decide_eq_false HF.out h.2)).symm, below_dN (by go_grown) _⟩
    · have HF := Lib.hid hb
      clear hb
      go_wp2
      go_ret
      refine ⟨ret_bool (decide_eq_true ⟨trivial, of_decide_eq_true HF.out⟩).symm, below_dN (by go_grown) _⟩
  · have hne : (N != M) = true := by simpa using hNM
    have HF := Lib.hid hNM
    clear hNM
    go_enter Tryd.func84, Tryd.ntmps84
    go_wp2
    go_ret
    refine ⟨ret_bool (decide_eq_false (fun h => HF.out h.1)).symm, by go_grown⟩

end Go.Proofs.YtlbnngolcoefdaaDoor
