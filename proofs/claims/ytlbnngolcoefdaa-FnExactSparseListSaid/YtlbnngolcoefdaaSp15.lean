/- SparseOk: both. -/
import Derived.Test.YtlbnngolcoefdaaSp14
import Derived.Test.YtlbnngolcoefdaaSp11
namespace Go.Proofs.Ytlbnngolcoefdaa
open Go.RowKit
set_option maxRecDepth 100000

theorem specSparseOk_any (V N P M K H : Int) (A A' : Option Addr) (c c' : Nat) (Ws Vs : List Nat) (w : World) (hL : Lies w U A Ws) (hL' : Lies w U A' Vs) (hw : ∀ x ∈ Ws, x < 2 ^ 64) (hw' : ∀ x ∈ Vs, x < 2 ^ 64) :
    Calls Try.prog 39 #[SP V N P M K (.slice A Ws.length c) H (.slice A' Vs.length c')] w fun e w' => e = .returned (.bool (okS V N P M K Ws H Vs)) ∧ Below w.heap.size w w' := by
  rw [← okT_eq hw hw']
  cases hp : okP P M K Ws
  · exact specSparseOk_bad V N P M K H A A' c c' Ws Vs w hL hL' hw hw' (.inl hp)
  · cases hb : okB H Vs
    · exact specSparseOk_bad V N P M K H A A' c c' Ws Vs w hL hL' hw hw' (.inr (.inl hb))
    · by_cases h20 : 20 < P
      · exact specSparseOk_bad V N P M K H A A' c c' Ws Vs w hL hL' hw hw' (.inr (.inr h20))
      · obtain ⟨wd, _, _, rfl, _, _, _, _⟩ := okP_nat hp
        obtain ⟨h, rfl, h5, _, _⟩ := okB_nat hb
        exact specSparseOk_good V N wd h M K A A' c c' Ws Vs w hL hL' hw hw' hp hb h5 (by omega)

theorem implSparseOk_any (V N P M K H : Int) (A A' : Option Addr) (c c' : Nat) (Ws Vs : List Nat) (w : World) (hL : Lies w U A Ws) (hL' : Lies w U A' Vs) (hw : ∀ x ∈ Ws, x < 2 ^ 64) (hw' : ∀ x ∈ Vs, x < 2 ^ 64) (hN : N ≤ 9223372036854775807) (hlc : Vs.length ≤ c' ∧ c' ≤ 9223372036854775807) :
    Calls Try.prog 43 #[SP V N P M K (.slice A Ws.length c) H (.slice A' Vs.length c')] w fun e w' => e = .returned (.bool (okS V N P M K Ws H Vs)) ∧ Below w.heap.size w w' := by
  cases hf : (decide (0 ≤ N) && spFits N.toNat V)
  · exact implSparseOk_bad V N P M K H A A' c c' Ws Vs w hL hL' hw hw' hN (.inl hf)
  · cases hp : okP P M K Ws
    · exact implSparseOk_bad V N P M K H A A' c c' Ws Vs w hL hL' hw hw' hN (.inr (.inl hp))
    · cases hb : okB H Vs
      · exact implSparseOk_bad V N P M K H A A' c c' Ws Vs w hL hL' hw hw' hN (.inr (.inr hb))
      · have e : okS V N P M K Ws H Vs = ((decide (M = N) && decide (P = (lowV N.toNat V.toNat : Int))) && ((decide (H = (hiV N.toNat V.toNat : Int)) && decide ((cnt Vs 1 H.toNat : Int) = N)) && srt V 0 (splV P M K Ws H Vs))) := by
          unfold okS
          rw [hf, hp, hb, Bool.true_and, Bool.true_and, Bool.true_and]
        rw [e]
        rw [Bool.and_eq_true, decide_eq_true_iff] at hf
        obtain ⟨hN0, hf⟩ := hf
        obtain ⟨n, rfl⟩ := Int.eq_ofNat_of_zero_le hN0
        rw [Int.toNat_natCast] at hf ⊢
        obtain ⟨v, rfl, hv, _, _, hn5⟩ := spFits_nat hf
        obtain ⟨h, rfl, h5, _, _⟩ := okB_nat hb
        rw [Int.toNat_natCast, Int.toNat_natCast]
        exact implSparseOk_good v n h P M K A A' c c' Ws Vs w hL hL' hw hw' hlc.1 hlc.2 hf hv hn5 hp hb h5

end Go.Proofs.Ytlbnngolcoefdaa
