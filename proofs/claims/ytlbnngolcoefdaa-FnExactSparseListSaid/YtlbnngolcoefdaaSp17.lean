/- SparseRank of the program. -/
import Derived.Test.YtlbnngolcoefdaaSp16
namespace Go.Proofs.Ytlbnngolcoefdaa
open Go.RowKit Go.Shelf
set_option maxRecDepth 100000
attribute [local go_sem] Oper.semAt_some

theorem filter_all {x : Int} {B : List Int} (h : ∀ y ∈ B, y < x) : (B.filter fun y => decide (y < x)) = B := by
  rw [List.filter_eq_self]
  intro y hy
  exact decide_eq_true (h y hy)

theorem filter_cut {u x y : Int} {B pre : List Int} (hs : srt u 0 B = true) (hp : (pre ++ [y]) <+: B) (hl : ∀ z ∈ pre, z < x) (hy : ¬ y < x) : (B.filter fun z => decide (z < x)) = pre := by
  obtain ⟨rest, rfl⟩ := hp
  rw [List.append_assoc, List.filter_append, filter_all hl]
  have h0 : (([y] ++ rest).filter fun z => decide (z < x)) = [] := by
    rw [List.filter_eq_nil_iff]
    intro z hz
    rw [List.singleton_append] at hz
    obtain ⟨j, hj⟩ := List.mem_iff_getElem?.1 hz
    have h1 : (pre ++ [y] ++ rest)[pre.length]? = some y := by simp
    have h2 : (pre ++ [y] ++ rest)[pre.length + j]? = some z := by
      rw [List.append_assoc, List.getElem?_append_right (by omega), Nat.add_sub_cancel_left, List.singleton_append]
      exact hj
    have := srt_mono hs pre.length (pre.length + j) y z (by omega) h1 h2
    simp only [decide_eq_true_iff]
    omega
  rw [h0, List.append_nil]

/-- What SparseRank holds while it ranges: x and the count. -/
def RankI (w : World) (x : Int) (cb : Nat) (pre : List Int) (W : World) : Prop :=
  ((∀ y ∈ pre, y < x) ∧ Boxed W (w.heap.size + 1) 3 (.int .i64 x) ∧ Boxed W cb 3 (.int .i64 (pre.length : Nat))) ∧ Below w.heap.size w W
def RankX (w : World) (x : Int) (cb : Nat) (c : Code) (pre : List Int) (W : World) : Prop :=
  (c = .exit 0 ∧ (∃ pre' y, pre = pre' ++ [y] ∧ (∀ z ∈ pre', z < x) ∧ ¬ y < x ∧ Boxed W cb 3 (.int .i64 (pre'.length : Nat)))) ∧ Below w.heap.size w W

end Go.Proofs.Ytlbnngolcoefdaa
