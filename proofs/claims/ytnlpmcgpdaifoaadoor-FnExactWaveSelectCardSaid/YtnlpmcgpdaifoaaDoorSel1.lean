/- The specification's Select. -/
import Derived.Test.YtnlpmcgpdaifoaaDoorWvMath2
import Derived.Test.YtnlpmcgpdaifoaaDoorNewB
import Derived.Test.YtnlpmcgpdaifoaaDoorScene
namespace Go.Proofs.YtnlpmcgpdaifoaaDoor
open Go.RowKit
set_option maxRecDepth 100000

theorem list_new2 (n : Nat) (A : Option Addr) (c : Nat) (L : List Nat) (w : World) (hL : Lies w U A L) (hl : L.length = (n + 63) / 64) (hn : n ≤ 5000) (hw : ∀ x ∈ L, x < 2 ^ 64) :
    Calls Tryd.prog 72 #[.agg #[.int .i64 n, .slice A L.length c]] w fun e w' => ∃ A' c', e = .returned (.slice A' n c') ∧ w'.ownsRow w.heap.size 3 1 (.slice A' n c') n ((bitsOf n L).map I) ∧ Below w.heap.size w w' :=
  (list_any n A c L w hL (by omega) hn (by omega) hw).mono fun e w' h => by
    obtain ⟨v, he, ho, hb⟩ := h
    obtain ⟨A', c', rfl⟩ := own_slice ho
    exact ⟨A', c', he, ho, hb⟩

theorem specBit2 (b : Int) (w : World) :
    Calls Tryd.prog 78 #[.int .i64 b] w fun e w' => e = .returned (.bool (decide (b = 0 ∨ b = 1))) ∧ w = w' := by
  by_cases h0 : b = 0
  · subst h0
    go_enter Tryd.func78, Tryd.ntmps78
    go_wp2
    go_ret
    exact ⟨rfl, rfl⟩
  · have t0 : (b == 0) = false := by rw [beq_eq_false_iff_ne]; exact h0
    by_cases h1 : b = 1
    · subst h1
      clear h0 t0
      go_enter Tryd.func78, Tryd.ntmps78
      go_wp2
      go_ret
      exact ⟨rfl, rfl⟩
    · have t1 : (b == 1) = false := by rw [beq_eq_false_iff_ne]; exact h1
      have HF := Lib.hid (decide_eq_false (show ¬ (b = 0 ∨ b = 1) by omega))
      clear h0 h1
      go_enter Tryd.func78, Tryd.ntmps78
      go_wp2
      go_ret
      exact ⟨ret_bool HF.out.symm, rfl⟩

/-- The answer of Select as a number. -/
def selI (L : List Nat) (b : Int) (n k : Nat) : Int := match selN L b n k with | some i => (i : Int) | none => -1
theorem selI_some (L : List Nat) (b : Int) (n k i : Nat) (hi : i < n) (hb : (bitN L i : Int) = b) (hc : cnt L b i = k) : selI L b n k = i := by unfold selI; rw [selN_some L b n k i hi hb hc]
theorem selI_none (L : List Nat) (b : Int) (n k : Nat) (h : cnt L b n ≤ k) : selI L b n k = -1 := by unfold selI; rw [selN_none L b n k h]

end Go.Proofs.YtnlpmcgpdaifoaaDoor
