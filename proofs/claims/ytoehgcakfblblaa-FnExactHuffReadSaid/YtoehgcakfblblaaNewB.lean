/- What BitsOf is to return, and new bit vectors. -/
import Derived.Test.YtoehgcakfblblaaSpec4
namespace Go.Proofs.Ytoehgcakfblblaa
open Go.RowKit

/-- Which lists are bits. -/
def okBits (B : List Int) : Bool := decide (B.length ≤ 5000) && B.all fun b => decide (b = 0 ∨ b = 1)
theorem okBits_iff (B : List Int) : okBits B = true ↔ B.length ≤ 5000 ∧ IsBits B := by
  unfold okBits IsBits
  rw [Bool.and_eq_true, decide_eq_true_iff, List.all_eq_true]
  simp only [decide_eq_true_iff]
/-- What BitsOf is to return. -/
def resN (B : List Int) : Int := if okBits B = true then (B.length : Int) else 0
def resW (B : List Int) : List Nat := if okBits B = true then wordsOf B else []

/-- A new bit vector is returned, and nothing that was there is touched. -/
def NewBits (w : World) (N : Int) (Ws : List Nat) (ok : Bool) (e : Ending) (w' : World) : Prop :=
  ∃ A c, e = .returned (.tuple #[.agg #[.int .i64 N, .slice A Ws.length c], .bool ok]) ∧ w'.ownsRow w.heap.size 123 1 (.slice A Ws.length c) Ws.length (Ws.map U) ∧ Below w.heap.size w w'

theorem newBits_of {B : List Int} {w : World} {e : Ending} {w' : World} (h : BitsOfPost B w e w') : NewBits w (resN B) (resW B) (okBits B) e w' := by
  unfold NewBits resN resW
  rcases h with ⟨h1, h2, hb, v, he, ho⟩ | ⟨hno, hb, he⟩
  · have hok : okBits B = true := (okBits_iff B).2 ⟨h1, h2⟩
    rw [if_pos hok, if_pos hok, hok]
    rw [← wordsOf_len] at ho
    obtain ⟨A, c, rfl⟩ := own_slice ho
    exact ⟨A, c, he, ho, hb⟩
  · have hok : okBits B = false := by
      cases h : okBits B
      · rfl
      · exact absurd ((okBits_iff B).1 h) hno
    rw [hok, if_neg (by simp), if_neg (by simp)]
    exact ⟨none, 0, he, World.ownsRow_nil _ _ _ _, hb⟩

theorem resW_len (B : List Int) : (resW B).length ≤ 79 := by
  unfold resW
  split
  · rename_i h
    rw [wordsOf_len]
    have := ((okBits_iff B).1 h).1
    omega
  · simp

/-- A new bit vector is returned, alone. -/
def NewBits1 (w : World) (N : Int) (Ws : List Nat) (e : Ending) (w' : World) : Prop :=
  ∃ A c, e = .returned (.agg #[.int .i64 N, .slice A Ws.length c]) ∧ w'.ownsRow w.heap.size 123 1 (.slice A Ws.length c) Ws.length (Ws.map U) ∧ Below w.heap.size w w'

end Go.Proofs.Ytoehgcakfblblaa
