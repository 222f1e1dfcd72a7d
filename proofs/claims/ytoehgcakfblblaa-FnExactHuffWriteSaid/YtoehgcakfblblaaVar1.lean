/- VarOf, the specification's and the program's: the bytes of a number. -/
import Derived.Test.YtoehgcakfblblaaProg
import Derived.Test.YtoehgcakfblblaaMem
namespace Go.Proofs.Ytoehgcakfblblaa
open Go.RowKit
set_option maxRecDepth 100000

/-- The bytes of a number: seven bits each, at most f bytes ahead of the last one. -/
def varF : Nat → Nat → List Nat
  | 0, n => [n]
  | f + 1, n => if n < 128 then [n] else (n % 128 + 128) :: varF f (n / 128)
/-- What VarOf is to return. -/
def varV (n : Int) : List Nat := if 0 ≤ n ∧ n ≤ 4294967295 then varF 4 n.toNat else []
theorem varF_small (f x : Nat) (h : x < 128) : varF f x = [x] := by
  cases f with
  | zero => rfl
  | succ f => rw [varF, if_pos h]
theorem varF_len (f x : Nat) : (varF f x).length ≤ f + 1 := by
  induction f generalizing x with
  | zero => simp [varF]
  | succ f ih =>
    rw [varF]
    split
    · simp
    · have := ih (x / 128)
      simp only [List.length_cons]
      omega
theorem varV_len (n : Int) : (varV n).length ≤ 5 := by
  unfold varV
  split
  · exact varF_len 4 _
  · simp

theorem Try.infoU8 : (Try.prog.info? 5).map (fun i => (i.zero, i.size, i.bytes)) = some (some (.int .u8 0), 1, 1) := by kernel_rfl

/-- A new list of bytes is returned. -/
def NewBytes (w : World) (M : List Nat) (e : Ending) (w' : World) : Prop :=
  ∃ A c, e = .returned (.slice A M.length c) ∧ w'.ownsRow w.heap.size 5 1 (.slice A M.length c) M.length (M.map B8) ∧ Below w.heap.size w w'

theorem newBytes_own {w w' : World} {v : Value} {M : List Nat} {n : Nat} (h : w'.ownsRow w.heap.size 5 1 v n (M.map B8)) (hn : M.length = n) (hb : Below w.heap.size w w') : NewBytes w M (.returned v) w' := by
  subst hn
  obtain ⟨A, c, rfl⟩ := own_slice h
  exact ⟨A, c, rfl, h, hb⟩

end Go.Proofs.Ytoehgcakfblblaa
