/- SparseOf: the specification's and the program's answers are the same. -/
import Derived.Test.YtanllfidbhjboaaSp5
import Derived.Test.YtanllfidbhjboaaSp6b
namespace Go.Proofs.Ytanllfidbhjboaa
open Go.RowKit

theorem spW_len (B : List Int) (u : Int) : (spW B u).length ≤ 79 := by
  unfold spW
  split
  · exact poW_len _ _
  · simp
theorem spV_len (B : List Int) (u : Int) : (spV B u).length ≤ 79 := by
  unfold spV
  split
  · exact resW_len _
  · simp

theorem sparse_both (B : List Int) (u : Int) (hl : B.length ≤ 17592186044416) : ∃ (V N P M K : Int) (Ws : List Nat) (H : Int) (Vs : List Nat) (ok : Bool),
    (∀ A c w, Lies w I A B → Calls Try.prog 7 #[.slice A B.length c, .int .i64 u] w (NewSparse w V N P M K Ws H Vs ok)) ∧
    (∀ A c w, Lies w I A B → Calls Try.prog 9 #[.slice A B.length c, .int .i64 u] w (NewSparse w V N P M K Ws H Vs ok)) ∧ Ws.length ≤ 79 ∧ Vs.length ≤ 79 :=
  ⟨_, _, _, _, _, _, _, _, _, fun A c w h => specSparse_any A c B u w h hl, fun A c w h => implSparse_any A c B u w h hl, spW_len B u, spV_len B u⟩

end Go.Proofs.Ytanllfidbhjboaa
