/- Contracts of the laws' own helpers on one frame (written by framegen.py out of those of bit vectors). -/
import Derived.Test.YtlbnngolcoefdaaDoorBytes1
import Derived.Test.YtlbnngolcoefdaaDoorScene
namespace Go.Proofs.YtlbnngolcoefdaaDoor
open Go.RowKit
set_option maxRecDepth 100000

/-- A new frame is returned, alone. -/
def NewFrame1 (w : World) (N : Int) (Ws : List Nat) (e : Ending) (w' : World) : Prop :=
  ∃ A c, e = .returned (.agg #[.int .i64 N, .slice A Ws.length c]) ∧ w'.ownsRow w.heap.size 5 1 (.slice A Ws.length c) Ws.length (Ws.map B8) ∧ Below w.heap.size w w'

set_option maxHeartbeats 400000 in
theorem eqFrame_any (N M : Int) (A B : Option Addr) (c d : Nat) (L K : List Nat) (w : World) (hL : Lies w B8 A L) (hK : Lies w B8 B K) (hn : L.length ≤ 17592186044416) :
    Calls Tryd.prog 37 #[.agg #[.int .i64 N, .slice A L.length c], .agg #[.int .i64 M, .slice B K.length d]] w fun e w' => e = .returned (.bool (decide (N = M ∧ L = K))) ∧ Below w.heap.size w w' := by
  by_cases hNM : N = M
  · subst hNM
    go_enter Tryd.func37, Tryd.ntmps37
    go_wp2_with fail
    refine (eqByte A B c d L K _ (hL.below (by go_grown)) (hK.below (by go_grown)) hn).mono ?_
    rintro e w1 ⟨rfl, n, rfl⟩
    clear hL hK
    cases hb : decide (L = K)
    · have HF := Lib.hid hb
      clear hb
      go_wp2
      go_ret
      refine ⟨ret_bool (decide_eq_false (fun h => of_decide_eq_false HF.out h.2)).symm, below_dN (by go_grown) _⟩
    · have HF := Lib.hid hb
      clear hb
      go_wp2
      go_ret
      refine ⟨ret_bool (decide_eq_true ⟨trivial, of_decide_eq_true HF.out⟩).symm, below_dN (by go_grown) _⟩
  · have hne : (N != M) = true := by simpa using hNM
    have HF := Lib.hid hNM
    clear hNM
    go_enter Tryd.func37, Tryd.ntmps37
    go_wp2
    go_ret
    refine ⟨ret_bool (decide_eq_false (fun h => HF.out h.1)).symm, by go_grown⟩

set_option maxHeartbeats 400000 in
theorem markFrame_any (N : Int) (A : Option Addr) (n c base : Nat) (k : Int) (xs : List Value) (w : World) (ho : w.ownsRow base 5 1 (.slice A n c) n xs) (hn : n ≤ 1048576) (hk0 : 0 ≤ k) (hk1 : k ≤ 1048576) :
    Calls Tryd.prog 40 #[.agg #[.int .i64 N, .slice A n c], .int .i64 k] w fun e w' => e = .returned (.int .i64 (k + n)) ∧
      w'.ownsRow base 5 1 (.slice A n c) n ((List.range n).map fun (j : Nat) => mk8 (k + j)) ∧ w.grownBy w' (Value.slice A n c).ownBlock := by
  have HO := Lib.hid ho
  clear ho
  go_enter Tryd.func40, Tryd.ntmps40
  go_wp2_with fail
  refine (markByte A n c base k xs _ (HO.out.alloc _) hn hk0 (by omega)).mono ?_
  rintro e w1 ⟨rfl, h1, h2⟩
  have H1 := Lib.hid h1
  have H2 := Lib.hid h2
  clear h1 h2
  go_wp2
  go_ret
  exact ⟨rfl, H1.out, (World.grownBy_alloc _ _ _).trans H2.out⟩

set_option maxHeartbeats 400000 in
theorem heldFrame_any (N : Int) (A : Option Addr) (n c : Nat) (k : Int) (w : World) (hL : Lies w mk8 A ((List.range n).map fun (j : Nat) => k + (j : Int))) (hn : n ≤ 1048576) (hk0 : 0 ≤ k) (hk1 : k ≤ 1048576) :
    Calls Tryd.prog 41 #[.agg #[.int .i64 N, .slice A n c], .int .i64 k] w fun e w' => e = .returned (.int .i64 (k + n)) ∧ Below w.heap.size w w' := by
  have HL := Lib.hid hL
  clear hL
  have hpos : ¬ (k + (n : Int) < 0) := by omega
  go_enter Tryd.func41, Tryd.ntmps41
  go_wp2_with fail
  refine (heldByte A n c k _ (HL.out.below (by go_grown)) hn hk0 (by omega)).mono ?_
  rintro e w1 ⟨rfl, rfl⟩
  go_wp2
  go_ret
  exact ⟨rfl, by go_grown⟩

theorem eqFrame_true (N : Int) (A B : Option Addr) (c d : Nat) (L : List Nat) (w : World) (hL : Lies w B8 A L) (hK : Lies w B8 B L) (hn : L.length ≤ 17592186044416) :
    Calls Tryd.prog 37 #[.agg #[.int .i64 N, .slice A L.length c], .agg #[.int .i64 N, .slice B L.length d]] w fun e w' => e = .returned (.bool true) ∧ Below w.heap.size w w' :=
  (eqFrame_any N N A B c d L L w hL hK hn).mono fun _ _ h => ⟨by rw [h.1, decide_eq_true ⟨rfl, rfl⟩], h.2⟩

end Go.Proofs.YtlbnngolcoefdaaDoor
