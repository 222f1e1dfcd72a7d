/- FrameRead, the program's and the specification's, as the laws use them. -/
import Derived.Test.YtlbnngolcoefdaaDoorFrRd6
namespace Go.Proofs.YtlbnngolcoefdaaDoor
open Go.RowKit

/-- The parts of what FrameRead returns. -/
def rK (D : List Nat) (a : Int) : Int := match rdV D a with | some (k, _, _) => (k : Int) | none => 0
def rB (D : List Nat) (a : Int) : List Nat := match rdV D a with | some (_, B, _) => B | none => []
def rN (D : List Nat) (a : Int) : Int := match rdV D a with | some (_, _, l) => a + (l : Int) | none => 0
def rO (D : List Nat) (a : Int) : Bool := (rdV D a).isSome
theorem frP_len {C : List Nat} {k : Nat} {B : List Nat} {l : Nat} (h : frP C = some (k, B, l)) : B.length ≤ 8000 := by
  unfold frP at h
  split at h
  · split at h
    · split at h
      · split at h
        · rename_i hc
          injection h with h
          injection h with _ h
          injection h with h _
          rw [← h, List.length_take]
          omega
        · cases h
      · cases h
    · cases h
  · cases h
theorem rB_len (D : List Nat) (a : Int) : (rB D a).length ≤ 8000 := by
  unfold rB
  split
  · rename_i k B l h
    unfold rdV at h
    split at h
    · exact frP_len h
    · cases h
  · simp
theorem rd_form' {D : List Nat} {a : Int} {w : World} {e : Ending} {w' : World} (h : RdRes D a w e w') :
    ∃ A c, e = .returned (.tuple #[.agg #[.int .i64 (rK D a), .slice A (rB D a).length c], .int .i64 (rN D a), .bool (rO D a)]) ∧ w'.ownsRow w.heap.size 5 1 (.slice A (rB D a).length c) (rB D a).length ((rB D a).map B8) ∧ Below w.heap.size w w' := by
  unfold RdRes at h
  unfold rK rB rN rO
  cases hr : rdV D a with
  | none =>
    rw [hr] at h
    exact ⟨none, 0, h.1, World.ownsRow_nil _ _ _ _, h.2⟩
  | some p =>
    obtain ⟨k, B, l⟩ := p
    rw [hr] at h
    exact h

theorem implFrameRead_b (A : Option Addr) (c : Nat) (D : List Nat) (a : Int) (b : Addr) (w : World) (hG : NoFrame w b) (hD : Lies w B8 A D) (hw : ∀ x ∈ D, x < 2 ^ 8) (hnc : D.length ≤ c) (hcm : c ≤ 9223372036854775807) (hn : D.length ≤ 17592186044416) :
    Calls Tryd.prog 29 #[.slice A D.length c, .int .i64 a] w fun e w' => ∃ A c, e = .returned (.tuple #[.agg #[.int .i64 (rK D a), .slice A (rB D a).length c], .int .i64 (rN D a), .bool (rO D a)]) ∧ w'.ownsRow w.heap.size 5 1 (.slice A (rB D a).length c) (rB D a).length ((rB D a).map B8) ∧ Below w.heap.size w w' :=
  (implFrameRead_any A c D a b w hG hD hw hnc hcm hn).mono fun _ _ h => rd_form' h
theorem specFrameRead_b (A : Option Addr) (c : Nat) (D : List Nat) (a : Int) (w : World) (hD : Lies w B8 A D) (hw : ∀ x ∈ D, x < 2 ^ 8) (hnc : D.length ≤ c) (hcm : c ≤ 9223372036854775807) (hn : D.length ≤ 17592186044416) (ha : a ≤ 9223372036854775807) :
    Calls Tryd.prog 35 #[.slice A D.length c, .int .i64 a] w fun e w' => ∃ A c, e = .returned (.tuple #[.agg #[.int .i64 (rK D a), .slice A (rB D a).length c], .int .i64 (rN D a), .bool (rO D a)]) ∧ w'.ownsRow w.heap.size 5 1 (.slice A (rB D a).length c) (rB D a).length ((rB D a).map B8) ∧ Below w.heap.size w w' :=
  (specFrameRead_any A c D a w hD hw hnc hcm hn ha).mono fun _ _ h => rd_form' h
theorem row_cap {w : World} {base n c : Nat} {e : TypeId} {A : Option Addr} {xs : List Value} (h : w.ownsRow base e 1 (.slice A n c) n xs) : n ≤ c ∧ c ≤ 9223372036854775807 := by
  rcases h.2 with ⟨h, hn⟩ | ⟨g, cap, cur, hv, _, _, h1, h2, _⟩
  · injection h with _ e1 e2
    omega
  · injection hv with _ _ e
    unfold maxLen at h2
    omega

end Go.Proofs.YtlbnngolcoefdaaDoor
