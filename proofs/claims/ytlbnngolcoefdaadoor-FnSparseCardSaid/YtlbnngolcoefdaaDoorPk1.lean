import Derived.Test.YtlbnngolcoefdaaDoorProg
import Derived.Test.YtlbnngolcoefdaaDoorMem
import Derived.Test.YtlbnngolcoefdaaDoorLaws5
/- Contracts of the laws' own comparisons, marks and tests of lists of numbers. -/
namespace Go.Proofs.YtlbnngolcoefdaaDoor
open Go.RowKit
set_option maxRecDepth 100000

/-- What a list holds after m rounds of being marked from k on. -/
def marked (f : Int → Value) (k : Int) (xs : List Value) (m : Nat) : List Value := (List.range m).map (fun (j : Nat) => f (k + j)) ++ xs.drop m
theorem marked_zero (f : Int → Value) (k : Int) (xs : List Value) : marked f k xs 0 = xs := by simp [marked]
theorem marked_all (f : Int → Value) (k : Int) (xs : List Value) (n : Nat) (h : xs.length = n) : marked f k xs n = (List.range n).map (fun (j : Nat) => f (k + j)) := by
  subst h; simp [marked]
theorem marked_succ (f : Int → Value) (k : Int) (xs : List Value) (m : Nat) (h : m < xs.length) : marked f k xs (m + 1) = (marked f k xs m).set m (f (k + m)) := by
  unfold marked
  rw [List.set_append_right _ _ (by simp), List.length_map, List.length_range, Nat.sub_self, List.range_succ, List.map_append, List.drop_eq_getElem_cons h, List.set_cons_zero]
  simp
theorem marked_get (f : Int → Value) (k : Int) (xs : List Value) (m : Nat) (h : m < xs.length) : ∃ u, (marked f k xs m)[m]? = some u := by
  refine ⟨xs[m], ?_⟩
  unfold marked
  rw [List.getElem?_append_right (by simp), List.length_map, List.length_range, Nat.sub_self, List.drop_eq_getElem_cons h]
  rfl

end Go.Proofs.YtlbnngolcoefdaaDoor

/- Contracts of the laws' own marks and tests of lists of words and of bit vectors. -/
namespace Go.Proofs.YtlbnngolcoefdaaDoor
open Go.RowKit
set_option maxRecDepth 100000

theorem lies_ints {w : World} {A : Option Addr} {c n : Nat} {base : Nat} {e : TypeId} {f : Int → Value} {k : Int} (h : w.ownsRow base e 1 (.slice A n c) n ((List.range n).map fun (j : Nat) => f (k + j))) :
    Lies w f A ((List.range n).map fun (j : Nat) => k + (j : Int)) := by
  refine Lies.of_own (n := n) (c := c) (base := base) (e := e) ?_
  rw [List.map_map]
  exact h

end Go.Proofs.YtlbnngolcoefdaaDoor

/- What BitsOf is to return, and new bit vectors. -/
namespace Go.Proofs.YtlbnngolcoefdaaDoor
open Go.RowKit

/-- Which lists are bits. -/
def okBits (B : List Int) : Bool := decide (B.length ≤ 5000) && B.all fun b => decide (b = 0 ∨ b = 1)
theorem okBits_iff (B : List Int) : okBits B = true ↔ B.length ≤ 5000 ∧ IsBits B := by
  unfold okBits IsBits
  rw [Bool.and_eq_true, decide_eq_true_iff, List.all_eq_true]
  simp only [decide_eq_true_iff]
/-- What BitsOf is to return. -/
def resN (B : List Int) : Int := if okBits B = true then (B.length : Int) else 0
def resW (B : List Int) : List Nat := if okBits B = true then wordsOf B else []

/-- A new bit vector is returned, and nothing that was there is touched. -/
def NewBits (w : World) (N : Int) (Ws : List Nat) (ok : Bool) (e : Ending) (w' : World) : Prop :=
  ∃ A c, e = .returned (.tuple #[.agg #[.int .i64 N, .slice A Ws.length c], .bool ok]) ∧ w'.ownsRow w.heap.size 113 1 (.slice A Ws.length c) Ws.length (Ws.map U) ∧ Below w.heap.size w w'

theorem newBits_of {B : List Int} {w : World} {e : Ending} {w' : World} (h : BitsOfPost B w e w') : NewBits w (resN B) (resW B) (okBits B) e w' := by
  unfold NewBits resN resW
  rcases h with ⟨h1, h2, hb, v, he, ho⟩ | ⟨hno, hb, he⟩
  · have hok : okBits B = true := (okBits_iff B).2 ⟨h1, h2⟩
    rw [if_pos hok, if_pos hok, hok]
    rw [← wordsOf_len] at ho
    obtain ⟨A, c, rfl⟩ := own_slice ho
    exact ⟨A, c, he, ho, hb⟩
  · have hok : okBits B = false := by
      cases h : okBits B
      · rfl
      · exact absurd ((okBits_iff B).1 h) hno
    rw [hok, if_neg (by simp), if_neg (by simp)]
    exact ⟨none, 0, he, World.ownsRow_nil _ _ _ _, hb⟩

theorem resW_len (B : List Int) : (resW B).length ≤ 79 := by
  unfold resW
  split
  · rename_i h
    rw [wordsOf_len]
    have := ((okBits_iff B).1 h).1
    omega
  · simp

/-- A new bit vector is returned, alone. -/
def NewBits1 (w : World) (N : Int) (Ws : List Nat) (e : Ending) (w' : World) : Prop :=
  ∃ A c, e = .returned (.agg #[.int .i64 N, .slice A Ws.length c]) ∧ w'.ownsRow w.heap.size 113 1 (.slice A Ws.length c) Ws.length (Ws.map U) ∧ Below w.heap.size w w'

end Go.Proofs.YtlbnngolcoefdaaDoor

/- Contracts of the laws' own helpers on packed integers. -/
namespace Go.Proofs.YtlbnngolcoefdaaDoor
open Go.RowKit
set_option maxRecDepth 100000

/-- Packed integers as a value. -/
abbrev PK (P N M : Int) (v : Value) : Value := .agg #[.int .i64 P, .int .i64 N, .int .i64 M, v]

/-- New packed integers are returned, alone or with a bool, and nothing that was there is touched. -/
def NewPacked1 (w : World) (P N M : Int) (Ws : List Nat) (e : Ending) (w' : World) : Prop :=
  ∃ A c, e = .returned (PK P N M (.slice A Ws.length c)) ∧ w'.ownsRow w.heap.size 113 1 (.slice A Ws.length c) Ws.length (Ws.map U) ∧ Below w.heap.size w w'
def NewPacked (w : World) (P N M : Int) (Ws : List Nat) (ok : Bool) (e : Ending) (w' : World) : Prop :=
  ∃ A c, e = .returned (.tuple #[PK P N M (.slice A Ws.length c), .bool ok]) ∧ w'.ownsRow w.heap.size 113 1 (.slice A Ws.length c) Ws.length (Ws.map U) ∧ Below w.heap.size w w'

set_option maxHeartbeats 400000 in
theorem szPacked_any (P N M : Int) (A : Option Addr) (n c : Nat) (left : Int) (w : World) (hn : n ≤ 9223372036854775807) (h0 : 0 ≤ left) (h1 : left ≤ 1048576) :
    Calls Tryd.prog 78 #[PK P N M (.slice A n c), .int .i64 left] w fun e w' => e = .returned (.int .i64 (if left < n then -1 else left - n)) ∧ Below w.heap.size w w' := by
  by_cases h : left < (n : Int)
  · have c1 := fun W => szBits_any M A n c left W hn h0 h1
    rw [if_pos h]
    simp only [if_pos h] at c1
    have C := Lib.hid c1
    clear c1
    go_enter Tryd.func78, Tryd.ntmps78
    go_wp2_with fail
    refine (C.out _).mono ?_
    rintro e w1 ⟨rfl, hb⟩
    have HB := Lib.hid hb
    clear hb
    go_wp2
    go_ret
    exact ⟨rfl, below_then (by go_grown) HB.out⟩
  · have c1 := fun W => szBits_any M A n c left W hn h0 h1
    rw [if_neg h]
    simp only [if_neg h] at c1
    have C := Lib.hid c1
    clear c1
    go_enter Tryd.func78, Tryd.ntmps78
    go_wp2_with fail
    refine (C.out _).mono ?_
    rintro e w1 ⟨rfl, hb⟩
    have HB := Lib.hid hb
    clear hb
    go_wp2
    go_ret
    exact ⟨rfl, below_then (by go_grown) HB.out⟩

set_option maxHeartbeats 400000 in
theorem toPacked_new (P N M : Int) (A : Option Addr) (c : Nat) (L : List Nat) (w : World) (hL : Lies w U A L) (hn : L.length ≤ 17592186044416) :
    Calls Tryd.prog 81 #[PK P N M (.slice A L.length c)] w (NewPacked1 w P N M L) := by
  go_enter Tryd.func81, Tryd.ntmps81
  go_wp2_with fail
  refine (toBits_any M A c L _ (hL.below (by go_grown)) hn).mono ?_
  rintro e w1 ⟨rfl, hown, hb⟩
  obtain ⟨hc, hf⟩ := bcell hb
  have hz : w.heap.size + 3 ≤ w1.heap.size := by have := hb.size; simp at this; omega
  have HO := Lib.hid hown
  have HB := Lib.hid hb
  clear hown hb hL
  go_wp2
  refine bodyPost_ret (v := PK P N M (.slice (some ⟨w.heap.size + 1 + 1 + 1 + 3, 0, none⟩) L.length L.length)) (by simp [results, Tryd.results81, go_sem, hc, hz]) rfl ⟨_, _, rfl, ?_, ?_⟩
  · have h := HO.out
    simp only [World.size_alloc] at h
    exact own_mono (ownsRow_setCell_below (ownsRow_setCell_below (ownsRow_setCell_below (ownsRow_setCell_below (ownsRow_setCell_below (ownsRow_setCell_below h (by go_size) _) (by go_size) _) (by go_size) _) (by go_size) _) (by go_size) _) (by go_size) _) (by go_size)
  · refine Below.setCell (Below.setCell (Below.setCell (Below.setCell (Below.setCell (Below.setCell (Below.trans ?_ (HB.out.mono (by go_size))) (by go_size) _) (by go_size) _) (by go_size) _) (by go_size) _) (by go_size) _) (by go_size) _
    go_grown

set_option maxHeartbeats 400000 in
theorem eqPacked_true (P N M : Int) (A B : Option Addr) (c d : Nat) (L : List Nat) (w : World) (hL : Lies w U A L) (hK : Lies w U B L) (hn : L.length ≤ 17592186044416) :
    Calls Tryd.prog 83 #[PK P N M (.slice A L.length c), PK P N M (.slice B L.length d)] w fun e w' => e = .returned (.bool true) ∧ Below w.heap.size w w' := by
  have t1 : (P != P) = false := by simp
  have t2 : (N != N) = false := by simp
  go_enter Tryd.func83, Tryd.ntmps83
  go_wp2_with fail
  refine (eqBits_any M M A B c d L L _ (hL.below (by go_grown)) (hK.below (by go_grown)) hn).mono ?_
  rintro e w1 ⟨rfl, hb⟩
  rw [decide_eq_true ⟨rfl, rfl⟩]
  have HB := Lib.hid hb
  clear hb hL hK
  go_wp2
  go_ret
  exact ⟨rfl, below_then (by go_grown) HB.out⟩

end Go.Proofs.YtlbnngolcoefdaaDoor
