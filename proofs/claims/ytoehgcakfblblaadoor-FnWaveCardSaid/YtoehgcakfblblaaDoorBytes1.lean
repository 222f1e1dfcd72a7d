import Derived.Test.YtoehgcakfblblaaDoorProg
import Derived.Test.YtoehgcakfblblaaDoorDraw3
/- VarOf, the specification's and the program's: the bytes of a number. -/
namespace Go.Proofs.YtoehgcakfblblaaDoor
open Go.RowKit
set_option maxRecDepth 100000

/-- The bytes of a number: seven bits each, at most f bytes ahead of the last one. -/
def varF : Nat → Nat → List Nat
  | 0, n => [n]
  | f + 1, n => if n < 128 then [n] else (n % 128 + 128) :: varF f (n / 128)
/-- What VarOf is to return. -/
def varV (n : Int) : List Nat := if 0 ≤ n ∧ n ≤ 4294967295 then varF 4 n.toNat else []
theorem varF_small (f x : Nat) (h : x < 128) : varF f x = [x] := by
  cases f with
  | zero => rfl
  | succ f => rw [varF, if_pos h]
theorem varF_len (f x : Nat) : (varF f x).length ≤ f + 1 := by
  induction f generalizing x with
  | zero => simp [varF]
  | succ f ih =>
    rw [varF]
    split
    · simp
    · have := ih (x / 128)
      simp only [List.length_cons]
      omega
theorem varV_len (n : Int) : (varV n).length ≤ 5 := by
  unfold varV
  split
  · exact varF_len 4 _
  · simp

theorem Tryd.infoU8 : (Tryd.prog.info? 5).map (fun i => (i.zero, i.size, i.bytes)) = some (some (.int .u8 0), 1, 1) := by kernel_rfl

/-- A new list of bytes is returned. -/
def NewBytes (w : World) (M : List Nat) (e : Ending) (w' : World) : Prop :=
  ∃ A c, e = .returned (.slice A M.length c) ∧ w'.ownsRow w.heap.size 5 1 (.slice A M.length c) M.length (M.map B8) ∧ Below w.heap.size w w'

theorem newBytes_own {w w' : World} {v : Value} {M : List Nat} {n : Nat} (h : w'.ownsRow w.heap.size 5 1 v n (M.map B8)) (hn : M.length = n) (hb : Below w.heap.size w w') : NewBytes w M (.returned v) w' := by
  subst hn
  obtain ⟨A, c, rfl⟩ := own_slice h
  exact ⟨A, c, rfl, h, hb⟩

end Go.Proofs.YtoehgcakfblblaaDoor

/- Contracts of the laws' own comparisons, marks and tests of lists of numbers. -/
namespace Go.Proofs.YtoehgcakfblblaaDoor
open Go.RowKit
set_option maxRecDepth 100000

/-- What a list holds after m rounds of being marked from k on. -/
def marked (f : Int → Value) (k : Int) (xs : List Value) (m : Nat) : List Value := (List.range m).map (fun (j : Nat) => f (k + j)) ++ xs.drop m
theorem marked_zero (f : Int → Value) (k : Int) (xs : List Value) : marked f k xs 0 = xs := by simp [marked]
theorem marked_all (f : Int → Value) (k : Int) (xs : List Value) (n : Nat) (h : xs.length = n) : marked f k xs n = (List.range n).map (fun (j : Nat) => f (k + j)) := by
  subst h; simp [marked]
theorem marked_succ (f : Int → Value) (k : Int) (xs : List Value) (m : Nat) (h : m < xs.length) : marked f k xs (m + 1) = (marked f k xs m).set m (f (k + m)) := by
  unfold marked
  rw [List.set_append_right _ _ (by simp), List.length_map, List.length_range, Nat.sub_self, List.range_succ, List.map_append, List.drop_eq_getElem_cons h, List.set_cons_zero]
  simp
theorem marked_get (f : Int → Value) (k : Int) (xs : List Value) (m : Nat) (h : m < xs.length) : ∃ u, (marked f k xs m)[m]? = some u := by
  refine ⟨xs[m], ?_⟩
  unfold marked
  rw [List.getElem?_append_right (by simp), List.length_map, List.length_range, Nat.sub_self, List.drop_eq_getElem_cons h]
  rfl

end Go.Proofs.YtoehgcakfblblaaDoor

/- Contracts of the laws' own copies, comparisons, marks and tests of lists of bytes (written by bytesgen.py out of those of words). -/
namespace Go.Proofs.YtoehgcakfblblaaDoor
open Go.RowKit
set_option maxRecDepth 100000

/-- What is marked: a number's last byte. -/
abbrev mk8 (v : Int) : Value := .int .u8 (v % 256)

end Go.Proofs.YtoehgcakfblblaaDoor
