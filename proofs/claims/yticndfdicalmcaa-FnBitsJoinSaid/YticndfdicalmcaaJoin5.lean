/- BitsJoin, both. -/
import Derived.Test.YticndfdicalmcaaJoin2
import Derived.Test.YticndfdicalmcaaJoin4
namespace Go.Proofs.Yticndfdicalmcaa
open Go.RowKit
set_option maxRecDepth 100000

theorem join_cases (N : Int) (L : List Nat) (M : Int) (K : List Nat) : okB N L = false ∨ (okB N L = true ∧ okB M K = false) ∨ (okB N L = true ∧ okB M K = true) := by
  cases okB N L <;> cases okB M K <;> simp

theorem jOk_two (n m : Nat) (L K : List Nat) (h1 : okB n L = true) (h2 : okB m K = true) : jOk n L m K = okBits (bitsOf n L ++ bitsOf m K) := by
  unfold jOk
  rw [h1, h2, Bool.true_and, Bool.true_and]
  have hl : (bitsOf n L ++ bitsOf m K).length = n + m := by rw [List.length_append, bitsOf_len, bitsOf_len]
  have hb := join_bits n L m K
  by_cases h : n + m ≤ 5000
  · rw [decide_eq_true (by omega), (okBits_iff _).2 ⟨by omega, hb⟩]
  · rw [decide_eq_false (by omega)]
    cases hc : okBits (bitsOf n L ++ bitsOf m K)
    · rfl
    · have := ((okBits_iff _).1 hc).1
      omega
theorem jN_two (n m : Nat) (L K : List Nat) (h1 : okB n L = true) (h2 : okB m K = true) : jN n L m K = resN (bitsOf n L ++ bitsOf m K) := by
  unfold jN resN
  rw [jOk_two n m L K h1 h2, List.length_append, bitsOf_len, bitsOf_len, Int.natCast_add]
theorem jW_two (n m : Nat) (L K : List Nat) (h1 : okB n L = true) (h2 : okB m K = true) : jW n L m K = resW (bitsOf n L ++ bitsOf m K) := by
  unfold jW resW
  rw [jOk_two n m L K h1 h2, Int.toNat_natCast, Int.toNat_natCast]

theorem specJoin_any (N : Int) (A : Option Addr) (c : Nat) (L : List Nat) (M : Int) (B : Option Addr) (d : Nat) (K : List Nat) (w : World) (hL : Lies w U A L) (hw : ∀ x ∈ L, x < 2 ^ 64) (hK : Lies w U B K) (hw2 : ∀ x ∈ K, x < 2 ^ 64) :
    Calls Try.prog 17 #[.agg #[.int .i64 N, .slice A L.length c], .agg #[.int .i64 M, .slice B K.length d]] w (NewBits w (jN N L M K) (jW N L M K) (jOk N L M K)) := by
  rcases join_cases N L M K with h | ⟨h, h2⟩ | ⟨h, h2⟩
  · refine (specJoin_bad1 N A c L M B d K w hL hw h).mono ?_
    rintro e w' ⟨rfl, hb⟩
    exact newBits_no N L M K (by unfold jOk; rw [h]; rfl) hb
  · refine (specJoin_bad2 N A c L M B d K w hL hw hK hw2 h h2).mono ?_
    rintro e w' ⟨rfl, hb⟩
    exact newBits_no N L M K (by unfold jOk; rw [h, h2]; rfl) hb
  · obtain ⟨n, rfl, hn, hl, _⟩ := okB_nat h
    obtain ⟨m, rfl, hm, hk, _⟩ := okB_nat h2
    rw [jN_two n m L K h h2, jW_two n m L K h h2, jOk_two n m L K h h2]
    exact specJoin_ok n A c L m B d K w hL hw hK hw2 h h2 hn hm (Lib.hid hl) (Lib.hid hk)

theorem implJoin_any (N : Int) (A : Option Addr) (c : Nat) (L : List Nat) (M : Int) (B : Option Addr) (d : Nat) (K : List Nat) (w : World) (hL : Lies w U A L) (hw : ∀ x ∈ L, x < 2 ^ 64) (hK : Lies w U B K) (hw2 : ∀ x ∈ K, x < 2 ^ 64) :
    Calls Try.prog 18 #[.agg #[.int .i64 N, .slice A L.length c], .agg #[.int .i64 M, .slice B K.length d]] w (NewBits w (jN N L M K) (jW N L M K) (jOk N L M K)) := by
  rcases join_cases N L M K with h | ⟨h, h2⟩ | ⟨h, h2⟩
  · refine (implJoin_bad1 N A c L M B d K w hL hw h).mono ?_
    rintro e w' ⟨rfl, hb⟩
    exact newBits_no N L M K (by unfold jOk; rw [h]; rfl) hb
  · refine (implJoin_bad2 N A c L M B d K w hL hw hK hw2 h h2).mono ?_
    rintro e w' ⟨rfl, hb⟩
    exact newBits_no N L M K (by unfold jOk; rw [h, h2]; rfl) hb
  · obtain ⟨n, rfl, hn, hl, ht⟩ := okB_nat h
    obtain ⟨m, rfl, hm, hk, ht2⟩ := okB_nat h2
    by_cases hnm : n + m ≤ 5000
    · have hj : jOk n L m K = true := by unfold jOk; rw [h, h2, decide_eq_true (by omega)]; rfl
      unfold jN jW
      rw [hj, if_pos rfl, if_pos rfl, Int.toNat_natCast, Int.toNat_natCast]
      exact implJoin_ok n A c L m B d K w hL hw hK hw2 h h2 hnm (Lib.hid hl) (Lib.hid hk) (Lib.hid ht) (Lib.hid ht2)
    · refine (implJoin_bad3 n A c L m B d K w hL hw hK hw2 h h2 hn hm (by omega)).mono ?_
      rintro e w' ⟨rfl, hb⟩
      exact newBits_no n L m K (by unfold jOk; rw [h, h2, decide_eq_false (by omega)]; rfl) hb

theorem jW_len (N : Int) (L : List Nat) (M : Int) (K : List Nat) : (jW N L M K).length ≤ 79 := by
  unfold jW
  split
  · rename_i h
    unfold jOk at h
    rw [Bool.and_eq_true, Bool.and_eq_true, decide_eq_true_iff] at h
    obtain ⟨⟨h1, h2⟩, h3⟩ := h
    obtain ⟨n, rfl, _⟩ := okB_nat h1
    obtain ⟨m, rfl, _⟩ := okB_nat h2
    rw [wordsOf_len, List.length_append, bitsOf_len, bitsOf_len]
    omega
  · simp

end Go.Proofs.Yticndfdicalmcaa
