/- A slice of a slice, whatever the elements are. Nothing of the program stands here. -/
import Derived.Test.YtoehgcakfblblaaSlCut
namespace Go.Proofs.Ytoehgcakfblblaa
open Go.RowKit

theorem slice_midH {P : Program} {α : Type} {f : α → Value} {T : TypeId} (ht : P.underlying T = some (.slice (P.elem T))) (hz : ∀ W : World, (sizeOf (P.elem T)).run P W = .ok 1 W) (b o n c : Nat) (L : List α) (i j : Nat) (w : World) (Hn : Hid (L.length = n)) (hL : Lies w f (some ⟨b, o, none⟩) L) (hij : i ≤ j) (hj : j ≤ n) (hc : n ≤ c) :
    ∃ o', (∀ W : World, (Instr.slice T (.slice (some ⟨b, o, none⟩) n c) (some (.int .i64 (i : Int))) (some (.int .i64 (j : Int))) none).run P W = .ok (.slice (some ⟨b, o', none⟩) ((L.drop i).take (j - i)).length (c - i)) W) ∧ Lies w f (some ⟨b, o', none⟩) ((L.drop i).take (j - i)) := by
  have hn := Hn.out
  have e : ((L.drop i).take (j - i)).length = j - i := by rw [List.length_take, List.length_drop, hn]; omega
  rw [e]
  by_cases hct : c = i
  · refine ⟨o, fun W => ?_, ?_⟩
    · rw [run_slice_lh (P := P) W T _ n c ht .i64 .i64 (i : Int) (j : Int) (by omega) (by omega) (by omega), Int.toNat_natCast, Int.toNat_natCast, hz]
      simp [Result.andThen, sliced, hct]
    · have : (L.drop i).take (j - i) = [] := List.length_eq_zero_iff.1 (by omega)
      rw [this]
      exact Lies.nil_
  · refine ⟨o + i, fun W => ?_, hL.piece i (j - i)⟩
    rw [run_slice_lh (P := P) W T _ n c ht .i64 .i64 (i : Int) (j : Int) (by omega) (by omega) (by omega), Int.toNat_natCast, Int.toNat_natCast, hz]
    simp [Result.andThen, sliced, hct, Addr.add]


end Go.Proofs.Ytoehgcakfblblaa
