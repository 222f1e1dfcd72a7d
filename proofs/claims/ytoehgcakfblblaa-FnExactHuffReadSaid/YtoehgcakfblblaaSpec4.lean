/- The specification's BitsOk. -/
import Derived.Test.YtoehgcakfblblaaSpec2
import Derived.Test.YtoehgcakfblblaaSpec3
namespace Go.Proofs.Ytoehgcakfblblaa
open Go.RowKit
set_option maxRecDepth 100000

theorem specOf_any (A : Option Addr) (c : Nat) (B : List Int) (w : World) (hB : Lies w I A B) (hn : B.length ≤ 17592186044416) :
    Calls Try.prog 65 #[.slice A B.length c] w (BitsOfPost B w) := by
  by_cases h : B.length ≤ 5000
  · exact specOf_short A B.length c B w hB (Lib.hid rfl) h
  · exact (specOf_long A B.length c w hn (by omega)).mono fun e w' ⟨he, hb⟩ => .inr ⟨fun h' => h h'.1, hb, he⟩

set_option maxHeartbeats 400000 in
theorem specOk_neg (N : Int) (A : Option Addr) (n c : Nat) (w : World) (h : N < 0) :
    Calls Try.prog 95 #[.agg #[.int .i64 N, .slice A n c]] w fun e w' => e = .returned (.bool false) ∧ Below w.heap.size w w' := by
  go_enter Try.func95, Try.ntmps95
  go_wp2
  go_ret
  exact ⟨rfl, by go_grown⟩

set_option maxHeartbeats 400000 in
theorem specOk_big (N : Int) (A : Option Addr) (n c : Nat) (w : World) (h : 5000 < N) :
    Calls Try.prog 95 #[.agg #[.int .i64 N, .slice A n c]] w fun e w' => e = .returned (.bool false) ∧ Below w.heap.size w w' := by
  have h0 : ¬ N < 0 := by omega
  go_enter Try.func95, Try.ntmps95
  go_wp2
  go_ret
  exact ⟨rfl, by go_grown⟩

set_option maxHeartbeats 400000 in
theorem specOk_len (N : Nat) (A : Option Addr) (n c : Nat) (w : World) (h : N ≤ 5000) (hl : n ≠ (N + 63) / 64) :
    Calls Try.prog 95 #[.agg #[.int .i64 N, .slice A n c]] w fun e w' => e = .returned (.bool false) ∧ Below w.heap.size w w' := by
  have h1 : ((n : Int) != ((N : Int) + 63) / 64) = true := by rw [bne_iff_ne]; omega
  go_enter Try.func95, Try.ntmps95
  go_wp2
  go_ret
  exact ⟨rfl, by go_grown⟩

set_option maxHeartbeats 400000 in
theorem specOk_full (n : Nat) (A : Option Addr) (m c : Nat) (L : List Nat) (w : World) (hL : Lies w U A L) (hl : Hid (L.length = m)) (hn : n ≤ 5000) (hm : Hid (m = (n + 63) / 64)) (hw : ∀ x ∈ L, x < 2 ^ 64) :
    Calls Try.prog 95 #[.agg #[.int .i64 n, .slice A m c]] w fun e w' => e = .returned (.bool (tailB n L)) ∧ Below w.heap.size w w' := by
  have h1 : ((m : Int) != ((n : Int) + 63) / 64) = false := by have := hm.out; rw [bne_eq_false_iff_eq]; omega
  have d0 : decide ((n : Int) < 0) = false := by simp
  have d1 : decide ((5000 : Int) < (n : Int)) = false := by simp; omega
  have hm5 : m ≤ 5000 := by have := hm.out; omega
  have HW := Lib.hid hw
  clear hw
  go_enter Try.func95, Try.ntmps95
  go_wp2_with fail
  generalize hW0 : w.alloc (Obj.cells #[Value.int IntKind.i64 ↑n, Value.slice A m c] 44) = W0
  have hx0 : Box W0 w.heap.size 44 #[.int .i64 n, .slice A m c] := by rw [← hW0]; exact Box.made _ _ _
  have hb0 : Below w.heap.size w W0 := by rw [← hW0]; go_grown
  have hL0 := hL.below hb0
  clear hL
  have c1 := list_any n A c L W0 hL0 (by rw [hl.out, hm.out]; exact Nat.le_refl _) hn (by rw [hl.out]; exact hm5) HW.out
  rw [hl.out] at c1
  refine c1.mono ?_
  rintro e w1 ⟨v, rfl, hown, hb1⟩
  obtain ⟨A1, c1', rfl⟩ := own_slice hown
  have hx1 := hx0.below hb1 hx0.lt
  have hL1 := hL0.below hb1
  have hb01 := hb0.trans (hb1.mono hb0.size)
  have hB1 : Lies w1 I A1 (bitsOf n L) := Lies.of_own hown
  clear c1 hb1 hL0 hx0 hb0 hW0 hown
  go_wp2_with fail
  have c2 := specOf_any A1 c1' (bitsOf n L) w1 hB1 (by rw [bitsOf_len]; omega)
  rw [bitsOf_len] at c2
  refine c2.mono ?_
  rintro e w2 (⟨_, _, hb2, v2, rfl, hown2⟩ | ⟨hno, _⟩)
  · have hx2 := hx1.below hb2 hx1.lt
    have hL2 := hL1.below hb2
    have hb02 := hb01.trans (hb2.mono hb01.size)
    rw [bitsOf_len, ← hm.out] at hown2
    rw [bitsOf_len]
    obtain ⟨A2, c2', rfl⟩ := own_slice hown2
    have hM2 : Lies w2 U A2 (wordsOf (bitsOf n L)) := Lies.of_own hown2
    clear c2 hb2 hL1 hx1 hb01 hB1 hown2
    go_wp2
    generalize hW3 : w2.alloc (Obj.cells #[Value.int IntKind.i64 ↑n, Value.slice A2 m c2'] 44) = W3
    have hx3 : Box W3 w.heap.size 44 #[.int .i64 n, .slice A m c] := by rw [← hW3]; exact hx2.alloc _
    have hy3 : Box W3 w2.heap.size 44 #[.int .i64 n, .slice A2 m c2'] := by rw [← hW3]; exact Box.made _ _ _
    have hb3 : Below w2.heap.size w2 W3 := by rw [← hW3]; go_grown
    have hL3 := hL2.below hb3
    have hM3 := hM2.below hb3
    have hb03 := hb02.trans (hb3.mono hb02.size)
    have hv := hx3.cell 1
    have hz := hy3.cell 1
    simp only [List.getElem?_toArray, List.getElem?_cons_zero, List.getElem?_cons_succ] at hv hz
    have HLen : Hid ((wordsOf (bitsOf n L)).length = m) := Lib.hid (by rw [wordsOf_len, bitsOf_len, hm.out])
    have HT : Hid (tailB n L = decide (L = wordsOf (bitsOf n L))) := Lib.hid (by
      rw [Bool.eq_iff_iff, decide_eq_true_iff, ← words_back n L (by rw [hl.out, hm.out]) HW.out]
      exact eq_comm)
    clear hW3 hL2 hM2 hb3 hx2 hx3 hy3 HW hb02
    generalize wordsOf (bitsOf n L) = M at *
    go_loopw [5] (fun i wr => ∃ k : Nat, k ≤ m ∧ i = .int .i64 k ∧ L.take k = M.take k ∧ Drawn W3 wr) (fun i _ => m - (intOf i).toNat)
    case atStart => exact ⟨0, Nat.zero_le _, rfl, by simp, Drawn.refl _⟩
    case round =>
      obtain ⟨k, hk, rfl, htk, q, rfl⟩ := hrel
      have HK := Lib.hid htk
      clear htk
      by_cases hlt : k < m
      · obtain ⟨b, o, x, rfl, hbl, hx, hc⟩ := hL3.at_ (i := k) (by rw [hl.out]; exact hlt)
        obtain ⟨b', o', y, rfl, hbl', hy, hc'⟩ := hM3.at_ (i := k) (by rw [HLen.out]; exact hlt)
        have HX := Lib.hid hx
        have HY := Lib.hid hy
        clear hx hy hL3 hM3
        by_cases hxy : x = y
        · subst hxy
          go_wp2
          go_quiet (fail)
          go_wp2
          go_roundw
          case rel => exact ⟨k + 1, by omega, by go_num, take_same_succ HK.out HX.out HY.out, ⟨_, rfl⟩⟩
          case measure => simp [intOf]; omega
        · have hne : (x != y) = true := by simpa using hxy
          have hne2 : ((x : Int) != (y : Int)) = true := by rw [bne_iff_ne]; omega
          have hne3 : ¬ ((x : Int) = (y : Int)) := by omega
          have HF := Lib.hid (decide_eq_false (ne_of_at HX.out HY.out hxy))
          go_wp2
          go_quiet (fail)
          go_wp2
          go_ret
          exact ⟨ret_bool (by rw [HT.out, HF.out]), hb03.trans ((Drawn.two _ _ _).below _)⟩
      · go_wp2
        go_ret
        have e : L = M := by
          have h := HK.out
          rwa [List.take_of_length_le (by rw [hl.out]; omega), List.take_of_length_le (by rw [HLen.out]; omega)] at h
        exact ⟨ret_bool (by rw [HT.out, decide_eq_true e]), hb03.trans ((Drawn.more (Drawn.refl _) _).below _)⟩
  · exact absurd ⟨by rw [bitsOf_len]; exact hn, bitsOf_bits _ _⟩ hno

theorem specOk_any (N : Int) (A : Option Addr) (c : Nat) (L : List Nat) (w : World) (hL : Lies w U A L) (hw : ∀ x ∈ L, x < 2 ^ 64) :
    Calls Try.prog 95 #[.agg #[.int .i64 N, .slice A L.length c]] w fun e w' => e = .returned (.bool (okB N L)) ∧ Below w.heap.size w w' := by
  unfold okB
  by_cases h : 0 ≤ N ∧ N ≤ 5000 ∧ L.length = (N.toNat + 63) / 64
  · obtain ⟨n, rfl⟩ := Int.eq_ofNat_of_zero_le h.1
    rw [decide_eq_true h, Bool.true_and]
    exact specOk_full n A L.length c L w hL (Lib.hid rfl) (by omega) (Lib.hid h.2.2) hw
  · rw [decide_eq_false h, Bool.false_and]
    by_cases h0 : N < 0
    · exact specOk_neg N A _ c w h0
    · by_cases h1 : 5000 < N
      · exact specOk_big N A _ c w h1
      · obtain ⟨n, rfl⟩ := Int.eq_ofNat_of_zero_le (show 0 ≤ N by omega)
        exact specOk_len n A _ c w (by omega) (fun e => h ⟨by omega, by omega, by rw [e]; rfl⟩)

end Go.Proofs.Ytoehgcakfblblaa
