/- BitsList, the specification's and the program's. -/
import Derived.Test.YtoiiiidijpenfaaSpec4
import Derived.Test.YtoiiiidijpenfaaAt2
namespace Go.Proofs.Ytoiiiidijpenfaa
open Go.RowKit

/-- What BitsList is to return. -/
def listV (N : Int) (L : List Nat) : List Int := if okB N L = true then bitsOf N.toNat L else []

/-- A new list of numbers is returned, and nothing that was there is touched. -/
def NewInts (w : World) (M : List Int) (e : Ending) (w' : World) : Prop :=
  ∃ v, e = .returned v ∧ w'.ownsRow w.heap.size 3 1 v M.length (M.map I) ∧ Below w.heap.size w w'

set_option maxHeartbeats 400000 in
theorem specList_any (N : Int) (A : Option Addr) (c : Nat) (L : List Nat) (w : World) (hL : Lies w U A L) (hw : ∀ x ∈ L, x < 2 ^ 64) :
    Calls Try.prog 32 #[.agg #[.int .i64 N, .slice A L.length c]] w (NewInts w (listV N L)) := by
  have HW := Lib.hid hw
  clear hw
  unfold listV
  cases hok : okB N L
  · rw [if_neg (by simp)]
    go_enter Try.func32, Try.ntmps32
    go_wp2_with fail
    refine (specOk_any N A c L _ (hL.below (by go_grown)) HW.out).mono ?_
    rintro e w1 ⟨rfl, hb⟩
    rw [hok]
    have HB := Lib.hid hb
    clear hb hL hok
    go_wp2
    go_ret
    exact ⟨_, rfl, World.ownsRow_nil _ _ _ _, below_then (by go_grown) HB.out⟩
  · rw [if_pos rfl]
    obtain ⟨n, rfl, hn, hl, _⟩ := okB_nat hok
    have Hl := Lib.hid hl
    clear hl
    go_enter Try.func32, Try.ntmps32
    go_wp2_with fail
    have hx0 := Box.made w 26 #[.int .i64 n, .slice A L.length c]
    have hb0 : Below w.heap.size w (w.alloc (.cells #[.int .i64 n, .slice A L.length c] 26)) := by go_grown
    have hL0 := hL.below hb0
    refine (specOk_any n A c L _ hL0 HW.out).mono ?_
    rintro e w1 ⟨rfl, hb⟩
    rw [hok]
    have hx1 := hx0.below hb hx0.lt
    have hL1 := hL0.below hb
    have hb1 := below_then hb0 hb
    have f0 := hx1.cell 0
    have f1 := hx1.cell 1
    simp only [List.getElem?_toArray, List.getElem?_cons_zero, List.getElem?_cons_succ] at f0 f1
    clear hb hL hok hx0 hx1 hb0 hL0
    go_wp2_with fail
    refine (list_any n A c L _ hL1 (by rw [Hl.out]; exact Nat.le_refl _) hn (by rw [Hl.out]; omega) HW.out).mono ?_
    rintro e w2 ⟨v, rfl, hown, hb⟩
    have HB := Lib.hid (below_then hb1 hb)
    have HO := Lib.hid (own_mono hown hb1.size)
    clear hown hb hb1 hL1 f0 f1
    go_wp2
    go_ret
    refine ⟨_, rfl, ?_, HB.out⟩
    rw [bitsOf_len]
    exact HO.out

end Go.Proofs.Ytoiiiidijpenfaa
