/- The specification's SparseOf: where it refuses at once, and the two rows that it makes. -/
import Derived.Test.YtlbnngolcoefdaaDoorSp4
import Derived.Test.YtlbnngolcoefdaaDoorStage
import Derived.Test.YtlbnngolcoefdaaDoorPk8
import Derived.Maps.AppendAt
namespace Go.Proofs.YtlbnngolcoefdaaDoor
open Go.RowKit
set_option maxRecDepth 100000

set_option maxHeartbeats 800000 in
theorem specSparse_range (A : Option Addr) (n c : Nat) (B : List Int) (u : Int) (w : World) (hn : n ≤ 17592186044416) (HB : Hid (B.length = n)) (hf : u < 0 ∨ 1000000 < u ∨ 5000 < n) :
    Calls Tryd.prog 12 #[.slice A n c, .int .i64 u] w (SparseRes B u w) := by
  have HN : Hid (spOk B u = false) := Lib.hid (by
    cases h : spOk B u
    · rfl
    · exfalso
      unfold spOk spFits at h
      rw [HB.out] at h
      simp only [Bool.and_eq_true, decide_eq_true_iff] at h
      have h2 := h.1.2.2
      have h3 : n ≤ hiV n u.toNat := Nat.le_trans (Nat.le_add_right _ _) (Nat.le_add_right _ _)
      omega)
  have hx := Box.made w 33 SPZ
  obtain ⟨⟨p0, p1, p2, p3, p4, p5, p6, p7⟩, ⟨z0, z1, z2, z3, z4, z5, z6, z7⟩, hlt⟩ := box_eight hx
  clear hx
  by_cases h0 : u < 0
  · have d0 : decide (u < 0) = true := by simpa using h0
    go_enter Tryd.func12, Tryd.ntmps12
    go_wp2
    refine bodyPost_ret (v := .tuple #[SP 0 0 0 0 0 (.slice none 0 0) 0 (.slice none 0 0), .bool false]) (by simp [results, Tryd.results12, go_sem, p0, p1, p2, p3, p4, p5, p6, p7]) rfl ?_
    exact sparse_no HN.out (by go_grown)
  · have d0 : decide (u < 0) = false := by simpa using h0
    by_cases h1 : 1000000 < u
    · have d1 : decide (1000000 < u) = true := by simpa using h1
      go_enter Tryd.func12, Tryd.ntmps12
      go_wp2
      refine bodyPost_ret (v := .tuple #[SP 0 0 0 0 0 (.slice none 0 0) 0 (.slice none 0 0), .bool false]) (by simp [results, Tryd.results12, go_sem, p0, p1, p2, p3, p4, p5, p6, p7]) rfl ?_
      exact sparse_no HN.out (by go_grown)
    · have d1 : decide (1000000 < u) = false := by simpa using h1
      have h2 : 5000 < n := by omega
      have d2 : decide ((5000 : Int) < (n : Int)) = true := by simp; omega
      go_enter Tryd.func12, Tryd.ntmps12
      go_wp2
      refine bodyPost_ret (v := .tuple #[SP 0 0 0 0 0 (.slice none 0 0) 0 (.slice none 0 0), .bool false]) (by simp [results, Tryd.results12, go_sem, p0, p1, p2, p3, p4, p5, p6, p7]) rfl ?_
      exact sparse_no HN.out (by go_grown)

/-- The two rows that are made side by side, and the result's box. -/
structure LhInv (w : World) (D E : List Int) (s t : Value) (W : World) : Prop where
  below : Below w.heap.size w W
  res : Box W w.heap.size 33 SPZ
  lo : W.ownsRow (w.heap.size + 1) 3 1 s D.length (D.map I)
  hi : W.ownsRow (w.heap.size + 1) 3 1 t E.length (E.map I)
  apart : ∀ k, s.ownBlock = some k → t.ownBlock ≠ some k

theorem LhInv.swap {w : World} {D E : List Int} {s t : Value} {W : World} (h : LhInv w D E s t W) : LhInv w E D t s W :=
  ⟨h.below, h.res, h.hi, h.lo, fun k ht hs => h.apart k hs ht⟩
theorem LhInv.push {w : World} {D E : List Int} {s t v : Value} {W W' : World} {o : Obj} {x : Int} (h : LhInv w D E s t W) (hown : W'.ownsRow (w.heap.size + 1) 3 1 v (D.length + 1) (D.map I ++ [.int .i64 x])) (hg : (W.alloc o).grownBy W' s.ownBlock)
    (hat : v.ownBlock = s.ownBlock ∨ v.ownBlock = some (W.heap.size + 1)) : LhInv w (D ++ [x]) E v t W' := by
  have hlt := h.res.lt
  refine ⟨(h.below.alloc (by omega) o).grown hg (by simp; omega) (fun j hj => by have := (h.lo.lt j hj).1; omega), (h.res.alloc o).grown hg (own_apart h.lo (by omega)), ?_, ?_, fun k hk ht => ?_⟩
  · rw [List.length_append, List.map_append]
    exact hown
  · refine own_turn h.hi fun k hk => ⟨(h.hi.lt k hk).1, ?_⟩
    have hkl := (h.hi.lt k hk).2
    exact (hg.block k (by simp; omega) (fun e => h.apart k e.symm hk)).trans (Below.heap_alloc W o k hkl)
  · have hkl := (h.hi.lt k ht).2
    rcases hat with e | e
    · exact h.apart k (e ▸ hk) ht
    · rw [e] at hk
      have := Option.some.inj hk
      omega

theorem srt_not {u : Int} {B : List Int} {k : Nat} {x : Int} (hx : B[k]? = some x) (h : ¬ ((B.take k).getLastD 0 ≤ x ∧ x < u)) : srt u 0 B = false := by
  cases hs : srt u 0 B
  · rfl
  · have h1 := srt_before (List.take_prefix (k + 1) B) hs
    rw [srt_take u B k x 0 hx, Bool.and_eq_true, decide_eq_true_iff] at h1
    exact absurd h1.2 h

end Go.Proofs.YtlbnngolcoefdaaDoor
