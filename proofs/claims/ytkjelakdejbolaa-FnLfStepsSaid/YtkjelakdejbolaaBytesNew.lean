import Derived.Test.YtkjelakdejbolaaSlCut
import Derived.Test.YtkjelakdejbolaaCrc1
import Derived.Test.YtkjelakdejbolaaFr1
import Derived.Test.YtkjelakdejbolaaVarRd3
import Derived.Deep.RegionHeld3
import Derived.Handy
import Derived.StillTailTactics
/- FrameOf, the program's. -/
namespace Go.Proofs.Ytkjelakdejbolaa
open Go.RowKit
set_option maxRecDepth 100000

theorem box_two {w0 w' : World} {g : Nat} {t : TypeId} {a b : Value} (hx : Box w0 g t #[a, b]) (hb : Below w0.heap.size w0 w') : w'.cell? ⟨g, 0, none⟩ = some a ∧ w'.cell? ⟨g, 1, none⟩ = some b ∧ g < w'.heap.size :=
  ⟨(hx.below hb hx.lt).cell 0, (hx.below hb hx.lt).cell 1, (hx.below hb hx.lt).lt⟩
theorem frD_byte {k : Nat} {L : List Nat} (hk : k ≤ 255) (hL : ∀ x ∈ L, x < 2 ^ 8) : ∀ x ∈ frD k L, x < 2 ^ 8 := by
  intro x hx
  have hv := varV_byte (L.length : Int)
  unfold frD at hx
  simp only [List.mem_append, List.mem_cons] at hx
  rcases hx with rfl | rfl | hx | hx
  · decide
  · omega
  · exact hv x hx
  · exact hL x hx
theorem frD_len (k : Nat) (L : List Nat) (hl : L.length ≤ 8000) : (frD k L).length ≤ 8010 := by
  have := varV_len (L.length : Int)
  unfold frD
  simp only [List.length_cons, List.length_append]
  omega
theorem crcV_frD (k : Nat) (L : List Nat) (hl : L.length ≤ 8000) : crcV (frD k L) = (crcL (frD k L) : Int) := by
  have := frD_len k L hl
  unfold crcV
  rw [if_neg (by omega)]

end Go.Proofs.Ytkjelakdejbolaa

/- FrameOf, the specification's; and the law's contracts. -/
namespace Go.Proofs.Ytkjelakdejbolaa
open Go.RowKit
set_option maxRecDepth 100000

theorem lit_own (w0 w : World) (k : Nat) (h : w0.heap.size ≤ w.heap.size) : (w.alloc (Obj.cells #[B8 90, B8 k] 5)).ownsRow w0.heap.size 5 1 (.slice (some ⟨w.heap.size, 0, none⟩) 2 2) [90, k].length ([90, k].map B8) := World.ownsRow_lit w _ _ h (show 2 ≤ maxLen by decide) rfl

theorem own_drew {w : World} {base : Nat} {e : TypeId} {v : Value} {n : Nat} {xs : List Value} (h : w.ownsRow base e 1 v n xs) : w.drew.ownsRow base e 1 v n xs := h
/-- VarOf behind the new row or ahead of it: what was there stays. -/
theorem var_after {w0 w1 X w3 : World} (h : Below w0.heap.size w0 w1) (h3 : Below X.heap.size X w3) (hX : X = w1.drew ∨ (∃ o, X = w1.drew.alloc o) ∨ (∃ o, X = (w1.alloc o).drew)) : Below w0.heap.size w0 w3 := by
  have hs := h.size
  rcases hX with rfl | ⟨o, rfl⟩ | ⟨o, rfl⟩
  · exact h.drew.trans (h3.mono hs)
  · exact (h.drew.alloc hs o).trans (h3.mono (by simp; omega))
  · exact (h.alloc hs o).drew.trans (h3.mono (by simp; omega))

theorem frV_len (K : Int) (L : List Nat) : (frV K L).length ≤ 8014 := by
  unfold frV
  split
  · rename_i h
    have h' := of_decide_eq_true h
    have := frD_len K.toNat L h'.2.2
    unfold frB
    rw [List.length_append, four_len]
    omega
  · simp
theorem frV_byte (K : Int) (L : List Nat) (hL : ∀ x ∈ L, x < 2 ^ 8) : ∀ x ∈ frV K L, x < 2 ^ 8 := by
  unfold frV
  split
  · rename_i h
    have h' := of_decide_eq_true h
    exact frB_byte (by omega) hL (varV_byte _)
  · simp

end Go.Proofs.Ytkjelakdejbolaa

/- The laws' copy of bytes. -/
namespace Go.Proofs.Ytkjelakdejbolaa
open Go.RowKit
set_option maxRecDepth 100000

set_option maxHeartbeats 400000 in
theorem bytesOf_new (A : Option Addr) (c : Nat) (D : List Nat) (w : World) (hL : Lies w B8 A D) (hA : Tidy A c) (hn : D.length ≤ 1048576) :
    Calls Try.prog 16 #[.slice A D.length c] w (NewBytes w D) := by
  have hO : (w.alloc (Obj.cells #[] 5)).ownsRow w.heap.size 5 1 (.slice (some ⟨w.heap.size, 0, none⟩) 0 0) ([] : List Nat).length (([] : List Nat).map B8) := World.ownsRow_lit w _ _ (Nat.le_refl _) (show 0 ≤ maxLen by decide) rfl
  have hb0 : Below w.heap.size w (w.alloc (Obj.cells #[] 5)) := (Below.refl _ _).alloc (Nat.le_refl _) _
  have HO := Lib.hid hO
  have HB0 := Lib.hid hb0
  have HL := Lib.hid (hL.below hb0)
  have HA := Lib.hid hA
  clear hO hb0 hL hA
  go_enter Try.func16, Try.ntmps16
  go_wp2_with (at_builtin; refine wpList_append_bytes _ rfl _ _ rfl w.heap.size _ [] rfl HO.out A c D rfl HL.out HA.out D rfl (by simp; omega) HB0.out.size ?_)
  intro A4 c4 w4 ho4 hg4
  have HO4 := Lib.hid ho4
  have HB4 := Lib.hid (HB0.out.trans (grown_below HO.out hg4 (Nat.le_refl _) HB0.out.size))
  clear ho4 hg4
  go_wp2
  go_ret
  exact ⟨A4, c4, rfl, HO4.out, HB4.out⟩

end Go.Proofs.Ytkjelakdejbolaa
