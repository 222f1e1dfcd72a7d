/- The laws' copy of bytes. -/
import Derived.Test.YtlgnndfhpnbhmaaFr3
import Derived.StillTailTactics
namespace Go.Proofs.Ytlgnndfhpnbhmaa
open Go.RowKit
set_option maxRecDepth 100000

set_option maxHeartbeats 400000 in
theorem bytesOf_new (A : Option Addr) (c : Nat) (D : List Nat) (w : World) (hL : Lies w B8 A D) (hA : Tidy A c) (hn : D.length ≤ 1048576) :
    Calls Try.prog 16 #[.slice A D.length c] w (NewBytes w D) := by
  have hO : (w.alloc (Obj.cells #[] 5)).ownsRow w.heap.size 5 1 (.slice (some ⟨w.heap.size, 0, none⟩) 0 0) ([] : List Nat).length (([] : List Nat).map B8) := World.ownsRow_lit w _ _ (Nat.le_refl _) (show 0 ≤ maxLen by decide) rfl
  have hb0 : Below w.heap.size w (w.alloc (Obj.cells #[] 5)) := (Below.refl _ _).alloc (Nat.le_refl _) _
  have HO := Lib.hid hO
  have HB0 := Lib.hid hb0
  have HL := Lib.hid (hL.below hb0)
  have HA := Lib.hid hA
  clear hO hb0 hL hA
  go_enter Try.func16, Try.ntmps16
  go_wp2_with (at_builtin; refine wpList_append_bytes _ rfl _ _ rfl w.heap.size _ [] rfl HO.out A c D rfl HL.out HA.out D rfl (by simp; omega) HB0.out.size ?_)
  intro A4 c4 w4 ho4 hg4
  have HO4 := Lib.hid ho4
  have HB4 := Lib.hid (HB0.out.trans (grown_below HO.out hg4 (Nat.le_refl _) HB0.out.size))
  clear ho4 hg4
  go_wp2
  go_ret
  exact ⟨A4, c4, rfl, HO4.out, HB4.out⟩

end Go.Proofs.Ytlgnndfhpnbhmaa
