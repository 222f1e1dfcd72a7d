/- The laws' own comparison of two bit vectors, where they are the same. -/
import Derived.Test.YticndfdicalmcaaProg
import Derived.Test.YticndfdicalmcaaMem3
import Derived.BigQuiet
namespace Go.Proofs.Yticndfdicalmcaa
open Go.RowKit
set_option maxRecDepth 100000

set_option maxHeartbeats 800000 in
theorem sameBits_true (N : Int) (A B : Option Addr) (c d : Nat) (L : List Nat) (w : World) (hL : Lies w U A L) (hK : Lies w U B L) (hn : L.length ≤ 17592186044416) :
    Calls Try.prog 23 #[.agg #[.int .i64 N, .slice A L.length c], .agg #[.int .i64 N, .slice B L.length d]] w fun e w' => e = .returned (.bool true) ∧ Below w.heap.size w w' := by
  obtain ⟨w0, hw0⟩ : ∃ w0, (w.alloc (Obj.cells #[.int .i64 N, .slice A L.length c] 26)).alloc (Obj.cells #[.int .i64 N, .slice B L.length d] 26) = w0 := ⟨_, rfl⟩
  have hbA : Below w.heap.size w w0 := by rw [← hw0]; exact ((Below.refl _ _).alloc (Nat.le_refl _) _).alloc (by simp) _
  have hr0 : Box w0 w.heap.size 26 #[.int .i64 N, .slice A L.length c] := by rw [← hw0]; exact (Box.made _ _ _).alloc _
  have hr1 : Box w0 (w.heap.size + 1) 26 #[.int .i64 N, .slice B L.length d] := by
    have h := Box.made (w.alloc (Obj.cells #[Value.int IntKind.i64 N, Value.slice A L.length c] 26)) 26 #[Value.int IntKind.i64 N, Value.slice B L.length d]
    rw [World.size_alloc] at h
    rw [← hw0]; exact h
  replace hL := hL.below hbA
  replace hK := hK.below hbA
  have p0 := hr0.cell 0
  have p1 := hr0.cell 1
  have r0 := hr1.cell 0
  have r1 := hr1.cell 1
  simp only [List.getElem?_toArray, List.getElem?_cons_zero, List.getElem?_cons_succ] at p0 p1 r0 r1
  have HB := Lib.hid hbA
  clear hbA hr0 hr1
  go_enter Try.func23, Try.ntmps23
  go_wp2
  go_loopw [5] (fun i wr => ∃ k : Nat, k ≤ L.length ∧ i = .int .i64 k ∧ Drawn w0 wr) (fun i _ => L.length - (intOf i).toNat)
  case atStart => exact ⟨0, Nat.zero_le _, rfl, Drawn.refl _⟩
  case round =>
    obtain ⟨k, hk, rfl, m, rfl⟩ := hrel
    by_cases hlt : k < L.length
    · obtain ⟨b, o, x, rfl, hbl, hx, hc⟩ := hL.at_ (i := k) hlt
      obtain ⟨b', o', y, rfl, hbl', hy, hc'⟩ := hK.at_ (i := k) hlt
      have hxy : x = y := Option.some.inj (hx.symm.trans hy)
      subst hxy
      clear hx hy hL hK
      go_wp2
      go_quiet (fail)
      go_wp2
      go_roundw
      case rel => exact ⟨k + 1, by omega, by go_num, ⟨_, rfl⟩⟩
      case measure => simp [intOf]; omega
    · go_wp2
      go_ret
      exact ⟨rfl, below_dN HB.out _⟩

end Go.Proofs.Yticndfdicalmcaa
