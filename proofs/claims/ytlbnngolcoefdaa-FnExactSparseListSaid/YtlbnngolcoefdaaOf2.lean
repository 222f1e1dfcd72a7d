import Derived.Test.YtlbnngolcoefdaaImpl2
import Derived.Test.YtlbnngolcoefdaaSelMath2
import Derived.Test.YtlbnngolcoefdaaMem3
import Derived.Test.YtlbnngolcoefdaaSpec4
/- The program's word methods that BitsOf calls, and one word of bits. -/
namespace Go.Proofs.Ytlbnngolcoefdaa
open Go.RowKit
set_option maxRecDepth 100000

set_option maxHeartbeats 400000 in
theorem isBit_any (b : Int) (w : World) :
    Calls Try.prog 84 #[.int .i64 b] w fun e w' => e = .returned (.bool (decide (b = 0 ∨ b = 1))) ∧ w = w' := by
  by_cases h0 : b = 0
  · subst h0
    go_enter Try.func84, Try.ntmps84
    go_wp2
    go_ret
    exact ⟨rfl, rfl⟩
  · have t0 : (b == 0) = false := by rw [beq_eq_false_iff_ne]; exact h0
    by_cases h1 : b = 1
    · subst h1
      go_enter Try.func84, Try.ntmps84
      go_wp2
      go_ret
      exact ⟨rfl, rfl⟩
    · have t1 : (b == 1) = false := by rw [beq_eq_false_iff_ne]; exact h1
      have HF := Lib.hid (decide_eq_false (show ¬ (b = 0 ∨ b = 1) by omega))
      clear h0 h1
      go_enter Try.func84, Try.ntmps84
      go_wp2
      go_ret
      exact ⟨ret_bool HF.out.symm, rfl⟩

theorem or_bit (x i : Nat) (h : x < 2 ^ i) : x ||| 2 ^ i = x + 2 ^ i := by
  rw [Nat.or_comm, nat_join i (2 ^ i) x (Nat.mod_self _) h, Nat.add_comm]

/-- A bit set in a word, as the walk spells it. -/
theorem set_form (x i : Nat) (hx : x < 2 ^ i) (hi : i < 64) : bits .or .u64 (x : Int) (IntKind.u64.wrap (2 ^ i)) = ((x + 2 ^ i : Nat) : Int) := by
  have hp : 2 ^ i < 2 ^ 64 := Nat.pow_lt_pow_right (by omega) hi
  have e : (2 : Int) ^ i = ((2 ^ i : Nat) : Int) := by simp
  have hw : IntKind.u64.wrap (2 ^ i) = ((2 ^ i : Nat) : Int) := by rw [e]; exact IntWalk.u64_in _ (by omega)
  rw [hw, u64_or_nat x (2 ^ i) (by omega) hp, or_bit x i hx]

theorem val_take_succ {B : List Int} {k : Nat} {x : Int} (hx : B[k]? = some x) (h01 : x = 0 ∨ x = 1) : val (B.take (k + 1)) = if x = 1 then val (B.take k) + 2 ^ k else val (B.take k) := by
  obtain ⟨hk, rfl⟩ := List.getElem?_eq_some_iff.1 hx
  have hl : (B.take k).length = k := by rw [List.length_take]; omega
  rw [List.take_succ_eq_append_getElem hk, val_append, hl]
  rcases h01 with h | h <;> simp [h, val]

theorem bits_more {B : List Int} {k : Nat} {x : Int} (h : IsBits (B.take k)) (hx : B[k]? = some x) (h01 : x = 0 ∨ x = 1) : IsBits (B.take (k + 1)) := by
  intro b hb
  rw [List.take_add_one, hx] at hb
  rcases List.mem_append.1 hb with hb | hb
  · exact h b hb
  · simp at hb
    subst hb
    exact h01

/-- What one word of bits is to be. -/
def WordPost (B : List Int) (w : World) (e : Ending) (w' : World) : Prop :=
  Below w.heap.size w w' ∧ ((IsBits B ∧ e = .returned (.tuple #[U (val B), .bool true])) ∨ (¬ IsBits B ∧ e = .returned (.tuple #[U 0, .bool false])))

end Go.Proofs.Ytlbnngolcoefdaa

/- The program's BitsOf. -/
namespace Go.Proofs.Ytlbnngolcoefdaa
open Go.RowKit
set_option maxRecDepth 100000

/-- What holds of the world after k rounds. -/
structure FillInv (B : List Int) (w : World) (n m k : Nat) (wr : World) : Prop where
  below : Below w.heap.size w wr
  res : Box wr w.heap.size 32 #[.int .i64 0, .slice none 0 0]
  row : wr.ownsRow (w.heap.size + 1) 106 1 (.slice (some ⟨w.heap.size + 1, 0, none⟩) m m) m (copied U (U 0) (wordsOf B) k)
  box : Box wr (w.heap.size + 2) 32 #[.int .i64 n, .slice (some ⟨w.heap.size + 1, 0, none⟩) m m]

theorem FillInv.start (B : List Int) (w : World) (n m : Nat) (hm : (wordsOf B).length = m) (hm79 : m ≤ 79) (a b c : Obj) (ha : a = Obj.cells #[Value.int IntKind.i64 0, Value.slice none 0 0] 32)
    (hb : b = Obj.cells (madeCells #[Value.int IntKind.u64 0] m) 106) (hc : c = Obj.cells #[Value.int IntKind.i64 ↑n, Value.slice (some ⟨w.heap.size + 1, 0, none⟩) m m] 32) :
    FillInv B w n m 0 (((w.alloc a).alloc b).alloc c) := by
  subst ha hb hc
  refine ⟨by go_grown, ((Box.made _ _ _).alloc _).alloc _, ?_, ?_⟩
  · refine World.ownsRow.alloc ?_ _
    rw [copied_zero, hm, ← toList_madeCells_one]
    have h := World.ownsRow_lit (base := w.heap.size + 1) (e := 106) (size := 1) (w.alloc (Obj.cells #[Value.int IntKind.i64 0, Value.slice none 0 0] 32)) (madeCells #[Value.int IntKind.u64 0] m) m (by simp) (by unfold maxLen; omega) (by simp [size_madeCells])
    rw [World.size_alloc] at h
    exact h
  · have h := Box.made ((w.alloc (Obj.cells #[Value.int IntKind.i64 0, Value.slice none 0 0] 32)).alloc (Obj.cells (madeCells #[Value.int IntKind.u64 0] m) 106)) 32 #[Value.int IntKind.i64 ↑n, Value.slice (some ⟨w.heap.size + 1, 0, none⟩) m m]
    rwa [World.size_alloc, World.size_alloc] at h

theorem FillInv.next {B : List Int} {w : World} {n m k : Nat} {wr w1 : World} (h : FillInv B w n m k wr) (hb : Below wr.heap.size wr w1) (hk : (wordsOf B)[k]? = some (val ((B.drop (64 * k)).take 64))) :
    FillInv B w n m (k + 1) (w1.setCell ⟨w.heap.size + 1, k, none⟩ (U (val ((B.drop (64 * k)).take 64)))) := by
  have hlt := h.box.lt
  have ho := own_below h.row hb (Nat.le_refl _)
  refine ⟨(below_then h.below hb).setCell (by simp) _, (h.res.below hb h.res.lt).off (by simp) _, ?_, (h.box.below hb h.box.lt).off (by simp) _⟩
  rw [copied_succ (f := U) (U 0) (wordsOf B) k _ hk]
  exact (ho.stored k _).1

theorem bits_chunk {B : List Int} {k : Nat} (h : IsBits (B.take (64 * k))) (h2 : IsBits ((B.drop (64 * k)).take 64)) : IsBits (B.take (64 * (k + 1))) := by
  intro b hb
  rw [show 64 * (k + 1) = 64 * k + 64 by omega, List.take_add] at hb
  rcases List.mem_append.1 hb with hb | hb
  · exact h b hb
  · exact h2 b hb

end Go.Proofs.Ytlbnngolcoefdaa
