/- Contracts of the laws' own helpers on packed integers. -/
import Derived.Test.YtlbnngolcoefdaaLaws5
import Derived.Test.YtlbnngolcoefdaaWords1
import Derived.Test.YtlbnngolcoefdaaNewB
namespace Go.Proofs.Ytlbnngolcoefdaa
open Go.RowKit
set_option maxRecDepth 100000

/-- Packed integers as a value. -/
abbrev PK (P N M : Int) (v : Value) : Value := .agg #[.int .i64 P, .int .i64 N, .int .i64 M, v]

/-- New packed integers are returned, alone or with a bool, and nothing that was there is touched. -/
def NewPacked1 (w : World) (P N M : Int) (Ws : List Nat) (e : Ending) (w' : World) : Prop :=
  ∃ A c, e = .returned (PK P N M (.slice A Ws.length c)) ∧ w'.ownsRow w.heap.size 106 1 (.slice A Ws.length c) Ws.length (Ws.map U) ∧ Below w.heap.size w w'
def NewPacked (w : World) (P N M : Int) (Ws : List Nat) (ok : Bool) (e : Ending) (w' : World) : Prop :=
  ∃ A c, e = .returned (.tuple #[PK P N M (.slice A Ws.length c), .bool ok]) ∧ w'.ownsRow w.heap.size 106 1 (.slice A Ws.length c) Ws.length (Ws.map U) ∧ Below w.heap.size w w'

set_option maxHeartbeats 400000 in
theorem szPacked_any (P N M : Int) (A : Option Addr) (n c : Nat) (left : Int) (w : World) (hn : n ≤ 9223372036854775807) (h0 : 0 ≤ left) (h1 : left ≤ 1048576) :
    Calls Try.prog 37 #[PK P N M (.slice A n c), .int .i64 left] w fun e w' => e = .returned (.int .i64 (if left < n then -1 else left - n)) ∧ Below w.heap.size w w' := by
  by_cases h : left < (n : Int)
  · have c1 := fun W => szBits_any M A n c left W hn h0 h1
    rw [if_pos h]
    simp only [if_pos h] at c1
    have C := Lib.hid c1
    clear c1
    go_enter Try.func37, Try.ntmps37
    go_wp2_with fail
    refine (C.out _).mono ?_
    rintro e w1 ⟨rfl, hb⟩
    have HB := Lib.hid hb
    clear hb
    go_wp2
    go_ret
    exact ⟨rfl, below_then (by go_grown) HB.out⟩
  · have c1 := fun W => szBits_any M A n c left W hn h0 h1
    rw [if_neg h]
    simp only [if_neg h] at c1
    have C := Lib.hid c1
    clear c1
    go_enter Try.func37, Try.ntmps37
    go_wp2_with fail
    refine (C.out _).mono ?_
    rintro e w1 ⟨rfl, hb⟩
    have HB := Lib.hid hb
    clear hb
    go_wp2
    go_ret
    exact ⟨rfl, below_then (by go_grown) HB.out⟩

set_option maxHeartbeats 400000 in
theorem toPacked_new (P N M : Int) (A : Option Addr) (c : Nat) (L : List Nat) (w : World) (hL : Lies w U A L) (hn : L.length ≤ 17592186044416) :
    Calls Try.prog 41 #[PK P N M (.slice A L.length c)] w (NewPacked1 w P N M L) := by
  go_enter Try.func41, Try.ntmps41
  go_wp2_with fail
  refine (toBits_any M A c L _ (hL.below (by go_grown)) hn).mono ?_
  rintro e w1 ⟨rfl, hown, hb⟩
  obtain ⟨hc, hf⟩ := bcell hb
  have hz : w.heap.size + 3 ≤ w1.heap.size := by have := hb.size; simp at this; omega
  have HO := Lib.hid hown
  have HB := Lib.hid hb
  clear hown hb hL
  go_wp2
  refine bodyPost_ret (v := PK P N M (.slice (some ⟨w.heap.size + 1 + 1 + 1 + 3, 0, none⟩) L.length L.length)) (by simp [results, Try.results41, go_sem, hc, hz]) rfl ⟨_, _, rfl, ?_, ?_⟩
  · have h := HO.out
    simp only [World.size_alloc] at h
    exact own_mono (ownsRow_setCell_below (ownsRow_setCell_below (ownsRow_setCell_below (ownsRow_setCell_below (ownsRow_setCell_below (ownsRow_setCell_below h (by go_size) _) (by go_size) _) (by go_size) _) (by go_size) _) (by go_size) _) (by go_size) _) (by go_size)
  · refine Below.setCell (Below.setCell (Below.setCell (Below.setCell (Below.setCell (Below.setCell (Below.trans ?_ (HB.out.mono (by go_size))) (by go_size) _) (by go_size) _) (by go_size) _) (by go_size) _) (by go_size) _) (by go_size) _
    go_grown

set_option maxHeartbeats 400000 in
theorem eqPacked_true (P N M : Int) (A B : Option Addr) (c d : Nat) (L : List Nat) (w : World) (hL : Lies w U A L) (hK : Lies w U B L) (hn : L.length ≤ 17592186044416) :
    Calls Try.prog 46 #[PK P N M (.slice A L.length c), PK P N M (.slice B L.length d)] w fun e w' => e = .returned (.bool true) ∧ Below w.heap.size w w' := by
  have t1 : (P != P) = false := by simp
  have t2 : (N != N) = false := by simp
  go_enter Try.func46, Try.ntmps46
  go_wp2_with fail
  refine (eqBits_any M M A B c d L L _ (hL.below (by go_grown)) (hK.below (by go_grown)) hn).mono ?_
  rintro e w1 ⟨rfl, hb⟩
  rw [decide_eq_true ⟨rfl, rfl⟩]
  have HB := Lib.hid hb
  clear hb hL hK
  go_wp2
  go_ret
  exact ⟨rfl, below_then (by go_grown) HB.out⟩

set_option maxHeartbeats 400000 in
theorem markPacked_any (P N M : Int) (A : Option Addr) (n c base : Nat) (k : Int) (xs : List Value) (w : World) (ho : w.ownsRow base 106 1 (.slice A n c) n xs) (hn : n ≤ 1048576) (hk0 : 0 ≤ k) (hk1 : k ≤ 1048576) :
    Calls Try.prog 48 #[PK P N M (.slice A n c), .int .i64 k] w fun e w' => e = .returned (.int .i64 (k + n)) ∧
      w'.ownsRow base 106 1 (.slice A n c) n ((List.range n).map fun (j : Nat) => Value.int .u64 (k + j)) ∧ w.grownBy w' (Value.slice A n c).ownBlock := by
  have HO := Lib.hid ho
  clear ho
  go_enter Try.func48, Try.ntmps48
  go_wp2_with fail
  refine (markBits_any M A n c base k xs _ (HO.out.alloc _) hn hk0 hk1).mono ?_
  rintro e w1 ⟨rfl, h1, h2⟩
  have H1 := Lib.hid h1
  have H2 := Lib.hid h2
  clear h1 h2
  go_wp2
  go_ret
  exact ⟨rfl, H1.out, (World.grownBy_alloc _ _ _).trans H2.out⟩

end Go.Proofs.Ytlbnngolcoefdaa
