/- Contracts of the laws' own copies, comparisons, marks and tests of lists of bytes (written by bytesgen.py out of those of words). -/
import Derived.Test.YtkjelakdejbolaaVar1
import Derived.Test.YtkjelakdejbolaaInts1
namespace Go.Proofs.Ytkjelakdejbolaa
open Go.RowKit
set_option maxRecDepth 100000

/-- What is marked: a number's last byte. -/
abbrev mk8 (v : Int) : Value := .int .u8 (v % 256)

set_option maxHeartbeats 400000 in
theorem toByte (A : Option Addr) (c : Nat) (L : List Nat) (w : World) (hL : Lies w B8 A L) (hn : L.length ≤ 17592186044416) :
    Calls Try.prog 33 #[.slice A L.length c] w fun e w' => e = .returned (.slice (some ⟨w.heap.size, 0, none⟩) L.length L.length) ∧
      w'.ownsRow w.heap.size 5 1 (.slice (some ⟨w.heap.size, 0, none⟩) L.length L.length) L.length (L.map B8) ∧ Below w.heap.size w w' := by
  have hmk := fun W => run_make_row' (P := Try.prog) 22 5 (.int .u8 0) 1 Try.underlying22 Try.infoU8 rfl .i64 .i64 L.length (by omega) (by omega) W
  go_enter Try.func33, Try.ntmps33
  go_wp2
  go_loopw [4] (fun i wr => ∃ k : Nat, k ≤ L.length ∧ i = .int .i64 k ∧ wr.ownsRow w.heap.size 5 1 (.slice (some ⟨w.heap.size, 0, none⟩) L.length L.length) L.length (copied B8 (B8 0) L k) ∧ Below w.heap.size w wr) (fun i _ => L.length - (intOf i).toNat)
  case atStart =>
    refine ⟨0, Nat.zero_le _, rfl, ?_, (Below.refl _ _).alloc (Nat.le_refl _) _⟩
    rw [copied_zero, ← toList_madeCells_one]
    exact World.ownsRow_lit w _ _ (Nat.le_refl _) (by unfold maxLen; omega) (by simp [size_madeCells])
  case round =>
    obtain ⟨k, hk, rfl, hown, hb⟩ := hrel
    clear hmk
    by_cases hlt : k < L.length
    · obtain ⟨b, o, x, rfl, hbl, hx, hc⟩ := hL.at_ hlt
      have hc' : wr.cell? ⟨b, o + k, none⟩ = some (.int .u8 x) := (hb.cell (p := ⟨b, o + k, none⟩) hbl).trans hc
      have hd : wr.cell? ⟨w.heap.size, k, none⟩ = some (.int .u8 0) := (hown.cellAt k (by omega)).trans (copied_get _ _ _ hlt)
      have hf := hown.frozenAt k
      have HS := Lib.hid (hown.stored k (.int .u8 x)).1
      have HB := Lib.hid (hb.setCell (p := ⟨w.heap.size, k, none⟩) (Nat.le_refl _) (.int .u8 x))
      have HX := Lib.hid (copied_succ (f := B8) (B8 0) L k x hx)
      clear hx hc hown hb
      go_wp2
      go_roundw
      case rel => exact ⟨k + 1, by omega, by go_num, by rw [HX.out]; exact HS.out, HB.out⟩
      case measure => simp [intOf]; omega
    · go_wp2
      go_ret
      have e : k = L.length := by omega
      subst e
      rw [copied_all] at hown
      exact ⟨rfl, hown, hb⟩


set_option maxHeartbeats 400000 in
theorem eqByte_len (A B : Option Addr) (n m c d : Nat) (w : World) (h : n ≠ m) :
    Calls Try.prog 34 #[.slice A n c, .slice B m d] w fun e w' => e = .returned (.bool false) ∧ w = w' := by
  have h1 : (n != m) = true := by simpa using h
  have h2 : ((n : Int) != (m : Int)) = true := by rw [bne_iff_ne]; omega
  have h3 : ¬ ((n : Int) = (m : Int)) := by omega
  go_enter Try.func34, Try.ntmps34
  go_wp2
  go_ret
  exact ⟨rfl, rfl⟩

set_option maxHeartbeats 400000 in
theorem eqByte_same (A B : Option Addr) (n c d : Nat) (L M : List Nat) (w : World) (hL : Lies w B8 A L) (hM : Lies w B8 B M) (hl : L.length = n) (hm : M.length = n) (hn : n ≤ 17592186044416) :
    Calls Try.prog 34 #[.slice A n c, .slice B n d] w fun e w' => e = .returned (.bool (decide (L = M))) ∧ Drawn w w' := by
  have HL := Lib.hid hl
  have HM := Lib.hid hm
  clear hl hm
  go_enter Try.func34, Try.ntmps34
  go_wp2
  go_loopw [5] (fun i wr => ∃ k : Nat, k ≤ n ∧ i = .int .i64 k ∧ L.take k = M.take k ∧ Drawn w wr) (fun i _ => n - (intOf i).toNat)
  case atStart => exact ⟨0, Nat.zero_le _, rfl, by simp, Drawn.refl _⟩
  case round =>
    obtain ⟨k, hk, rfl, htk, m, rfl⟩ := hrel
    have HT := Lib.hid htk
    clear htk
    by_cases hlt : k < n
    · obtain ⟨b, o, x, rfl, hbl, hx, hc⟩ := hL.at_ (i := k) (by rw [HL.out]; exact hlt)
      obtain ⟨b', o', y, rfl, hbl', hy, hc'⟩ := hM.at_ (i := k) (by rw [HM.out]; exact hlt)
      have HX := Lib.hid hx
      have HY := Lib.hid hy
      clear hx hy hL hM
      by_cases hxy : x = y
      · subst hxy
        go_wp2
        go_quiet (fail)
        go_wp2
        go_roundw
        case rel => exact ⟨k + 1, by omega, by go_num, take_same_succ HT.out HX.out HY.out, ⟨_, rfl⟩⟩
        case measure => simp [intOf]; omega
      · have hne : (x != y) = true := by simpa using hxy
        have hne2 : ((x : Int) != (y : Int)) = true := by rw [bne_iff_ne]; omega
        have hne3 : ¬ ((x : Int) = (y : Int)) := by omega
        have HF := Lib.hid (decide_eq_false (ne_of_at HX.out HY.out hxy))
        go_wp2
        go_quiet (fail)
        go_wp2
        go_ret
        exact ⟨ret_bool HF.out.symm, Drawn.two _ _ _⟩
    · go_wp2
      go_ret
      have e : L = M := by
        have h := HT.out
        rwa [List.take_of_length_le (by rw [HL.out]; omega), List.take_of_length_le (by rw [HM.out]; omega)] at h
      exact ⟨ret_bool (decide_eq_true e).symm, ⟨_, rfl⟩⟩

theorem eqByte (A B : Option Addr) (c d : Nat) (L M : List Nat) (w : World) (hL : Lies w B8 A L) (hM : Lies w B8 B M) (hn : L.length ≤ 17592186044416) :
    Calls Try.prog 34 #[.slice A L.length c, .slice B M.length d] w fun e w' => e = .returned (.bool (decide (L = M))) ∧ Drawn w w' := by
  by_cases h : L.length = M.length
  · rw [← h]
    exact eqByte_same A B L.length c d L M w hL hM rfl h.symm hn
  · refine (eqByte_len A B L.length M.length c d w h).mono fun e w' ⟨he, hw⟩ => ⟨?_, by rw [← hw]; exact Drawn.refl _⟩
    rw [he, decide_eq_false (fun e => h (by rw [e]))]


set_option maxHeartbeats 400000 in
theorem markByte (A : Option Addr) (n c base : Nat) (k : Int) (xs : List Value) (w : World) (ho : w.ownsRow base 5 1 (.slice A n c) n xs) (hn : n ≤ 1048576) (hk0 : 0 ≤ k) (hk1 : k ≤ 4194304) :
    Calls Try.prog 35 #[.slice A n c, .int .i64 k] w fun e w' => e = .returned (.int .i64 (k + n)) ∧
      w'.ownsRow base 5 1 (.slice A n c) n ((List.range n).map fun (j : Nat) => mk8 (k + j)) ∧ w.grownBy w' (Value.slice A n c).ownBlock := by
  have hlen : xs.length = n := by have := ho.1; omega
  have HL := Lib.hid hlen
  have HO := Lib.hid ho
  clear hlen ho
  go_enter Try.func35, Try.ntmps35
  go_wp2
  go_loopw [1, 5] (fun q i wr => ∃ m : Nat, m ≤ n ∧ i = .int .i64 m ∧ q = .int .i64 (k + m) ∧ wr.ownsRow base 5 1 (.slice A n c) n (marked mk8 k xs m) ∧ w.grownBy wr (Value.slice A n c).ownBlock) (fun _ i _ => n - (intOf i).toNat)
  case atStart => exact ⟨0, Nat.zero_le _, rfl, by simp, by rw [marked_zero]; exact HO.out, World.grownBy.refl _ _⟩
  case round =>
    obtain ⟨m, hm, rfl, rfl, hown, hg⟩ := hrel
    by_cases hlt : m < n
    · obtain ⟨g, cap, hv, _, _⟩ := hown.form (by omega)
      injection hv with hA _ hc
      subst hA hc
      obtain ⟨u, hu⟩ := marked_get mk8 k xs m (by rw [HL.out]; exact hlt)
      have hd := (hown.cellAt m (by omega)).trans hu
      have hf := hown.frozenAt m
      have hst := hown.stored m (mk8 (k + m))
      have HS := Lib.hid hst.1
      have HG := Lib.hid (hg.trans hst.2)
      have HX := Lib.hid (marked_succ mk8 k xs m (by rw [HL.out]; exact hlt))
      clear hown hg hu hst
      go_wp2
      go_roundw
      case rel => exact ⟨m + 1, by omega, by go_num, by go_num, by rw [HX.out]; exact HS.out, HG.out⟩
      case measure => simp [intOf]; omega
    · go_wp2
      go_ret
      have e : m = n := by omega
      subst e
      rw [marked_all _ _ _ _ HL.out] at hown
      exact ⟨rfl, hown, hg⟩

set_option maxHeartbeats 400000 in
theorem heldByte (A : Option Addr) (n c : Nat) (k : Int) (w : World) (hL : Lies w mk8 A ((List.range n).map fun (j : Nat) => k + (j : Int))) (hn : n ≤ 1048576) (hk0 : 0 ≤ k) (hk1 : k ≤ 4194304) :
    Calls Try.prog 41 #[.slice A n c, .int .i64 k] w fun e w' => e = .returned (.int .i64 (k + n)) ∧ w = w' := by
  go_enter Try.func41, Try.ntmps41
  go_wp2
  go_loop [1, 5] (fun q i => ∃ m : Nat, m ≤ n ∧ i = .int .i64 m ∧ q = .int .i64 (k + m)) (fun _ i => n - (intOf i).toNat)
  case atStart => exact ⟨0, Nat.zero_le _, rfl, by simp⟩
  case round =>
    obtain ⟨m, hm, rfl, rfl⟩ := hrel
    by_cases hlt : m < n
    · obtain ⟨b, o, x, rfl, _, hx, hc⟩ := hL.at_ (i := m) (by simp; exact hlt)
      have hx' : x = k + (m : Int) := by simp [hlt] at hx; exact hx.symm
      subst hx'
      clear hL hx
      go_wp2
      go_round
      case rel => exact ⟨m + 1, by omega, by go_num, by go_num⟩
      case measure => simp [intOf]; omega
    · go_wp2
      go_ret
      have e : m = n := by omega
      subst e
      exact ⟨rfl, rfl⟩

theorem lies_marks {w : World} {A : Option Addr} {c n : Nat} {base : Nat} {e : TypeId} {f : Int → Value} {k : Int} (h : w.ownsRow base e 1 (.slice A n c) n ((List.range n).map fun (j : Nat) => f (k + j))) :
    Lies w f A ((List.range n).map fun (j : Nat) => k + (j : Int)) := by
  refine Lies.of_own (n := n) (c := c) (base := base) (e := e) ?_
  rw [List.map_map]
  exact h
theorem toByte_new (A : Option Addr) (c : Nat) (L : List Nat) (w : World) (hL : Lies w B8 A L) (hn : L.length ≤ 17592186044416) :
    Calls Try.prog 33 #[.slice A L.length c] w (NewBytes w L) :=
  (toByte A c L w hL hn).mono fun _ _ h => ⟨_, _, h.1, h.2.1, h.2.2⟩

end Go.Proofs.Ytkjelakdejbolaa
