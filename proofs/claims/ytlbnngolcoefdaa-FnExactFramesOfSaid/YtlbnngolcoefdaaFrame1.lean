/- Contracts of the laws' own helpers on one frame (written by framegen.py out of those of bit vectors). -/
import Derived.Test.YtlbnngolcoefdaaBytes1
import Derived.Test.YtlbnngolcoefdaaScene
namespace Go.Proofs.Ytlbnngolcoefdaa
open Go.RowKit
set_option maxRecDepth 100000

/-- A new frame is returned, alone. -/
def NewFrame1 (w : World) (N : Int) (Ws : List Nat) (e : Ending) (w' : World) : Prop :=
  ∃ A c, e = .returned (.agg #[.int .i64 N, .slice A Ws.length c]) ∧ w'.ownsRow w.heap.size 5 1 (.slice A Ws.length c) Ws.length (Ws.map B8) ∧ Below w.heap.size w w'

set_option maxHeartbeats 400000 in
theorem szByte (A : Option Addr) (n c : Nat) (left : Int) (w : World) (hn : n ≤ 9223372036854775807) (h0 : 0 ≤ left) (h1 : left ≤ 1048576) :
    Calls Try.prog 51 #[.slice A n c, .int .i64 left] w fun e w' => e = .returned (.int .i64 (if left < n then -1 else left - n)) ∧ w = w' := by
  by_cases h : left < (n : Int)
  · rw [if_pos h]
    go_enter Try.func51, Try.ntmps51
    go_wp2
    go_ret
    exact ⟨rfl, rfl⟩
  · rw [if_neg h]
    go_enter Try.func51, Try.ntmps51
    go_wp2
    go_ret
    exact ⟨rfl, rfl⟩

set_option maxHeartbeats 400000 in
theorem szFrame_any (N : Int) (A : Option Addr) (n c : Nat) (left : Int) (w : World) (hn : n ≤ 9223372036854775807) (h0 : 0 ≤ left) (h1 : left ≤ 1048576) :
    Calls Try.prog 21 #[.agg #[.int .i64 N, .slice A n c], .int .i64 left] w fun e w' => e = .returned (.int .i64 (if left < n then -1 else left - n)) ∧ Below w.heap.size w w' := by
  by_cases h : left < (n : Int)
  · have c1 := fun W => szByte A n c left W hn h0 h1
    rw [if_pos h]
    simp only [if_pos h] at c1
    have C := Lib.hid c1
    clear c1
    go_enter Try.func21, Try.ntmps21
    go_wp2_with (go_at_call 51; refine (C.out _).mono ?_; rintro e w' ⟨rfl, rfl⟩)
    go_ret
    exact ⟨rfl, (Below.refl _ _).alloc (Nat.le_refl _) _⟩
  · have c1 := fun W => szByte A n c left W hn h0 h1
    rw [if_neg h]
    simp only [if_neg h] at c1
    have C := Lib.hid c1
    clear c1
    go_enter Try.func21, Try.ntmps21
    go_wp2_with (go_at_call 51; refine (C.out _).mono ?_; rintro e w' ⟨rfl, rfl⟩)
    go_ret
    exact ⟨rfl, (Below.refl _ _).alloc (Nat.le_refl _) _⟩

set_option maxHeartbeats 400000 in
theorem toFrame_any (N : Int) (A : Option Addr) (c : Nat) (L : List Nat) (w : World) (hL : Lies w B8 A L) (hn : L.length ≤ 17592186044416) :
    Calls Try.prog 23 #[.agg #[.int .i64 N, .slice A L.length c]] w fun e w' => e = .returned (.agg #[.int .i64 N, .slice (some ⟨w.heap.size + 3, 0, none⟩) L.length L.length]) ∧
      w'.ownsRow w.heap.size 5 1 (.slice (some ⟨w.heap.size + 3, 0, none⟩) L.length L.length) L.length (L.map B8) ∧ Below w.heap.size w w' := by
  go_enter Try.func23, Try.ntmps23
  go_wp2_with fail
  refine (toByte A c L _ (hL.below ((((Below.refl _ _).alloc (by simp) _).alloc (by simp) _).alloc (by simp; omega) _)) hn).mono ?_
  rintro e w1 ⟨rfl, hown, hb⟩
  obtain ⟨hc, hf⟩ := bcell hb
  have hz : w.heap.size + 3 ≤ w1.heap.size := by have := hb.size; simp at this; omega
  have HO := Lib.hid hown
  have HB := Lib.hid hb
  clear hown hb hL
  go_wp2
  refine bodyPost_ret (v := .agg #[.int .i64 N, .slice (some ⟨w.heap.size + 3, 0, none⟩) L.length L.length]) (by simp [results, Try.results23, go_sem, hc, hz]) rfl ⟨rfl, ?_, ?_⟩
  · have h := HO.out
    simp only [World.size_alloc] at h
    exact own_mono (ownsRow_setCell_below (ownsRow_setCell_below (ownsRow_setCell_below h (by go_size) _) (by go_size) _) (by go_size) _) (by go_size)
  · refine Below.setCell (Below.setCell (Below.setCell (Below.trans ?_ (HB.out.mono (by go_size))) (by go_size) _) (by go_size) _) (by go_size) _
    go_grown

set_option maxHeartbeats 400000 in
theorem eqFrame_any (N M : Int) (A B : Option Addr) (c d : Nat) (L K : List Nat) (w : World) (hL : Lies w B8 A L) (hK : Lies w B8 B K) (hn : L.length ≤ 17592186044416) :
    Calls Try.prog 25 #[.agg #[.int .i64 N, .slice A L.length c], .agg #[.int .i64 M, .slice B K.length d]] w fun e w' => e = .returned (.bool (decide (N = M ∧ L = K))) ∧ Below w.heap.size w w' := by
  by_cases hNM : N = M
  · subst hNM
    go_enter Try.func25, Try.ntmps25
    go_wp2_with fail
    refine (eqByte A B c d L K _ (hL.below (by go_grown)) (hK.below (by go_grown)) hn).mono ?_
    rintro e w1 ⟨rfl, n, rfl⟩
    clear hL hK
    cases hb : decide (L = K)
    · have HF := Lib.hid hb
      clear hb
      go_wp2
      go_ret
      refine ⟨ret_bool (decide_eq_false (fun h => of_decide_eq_false HF.out h.2)).symm, below_dN (by go_grown) _⟩
    · have HF := Lib.hid hb
      clear hb
      go_wp2
      go_ret
      refine ⟨ret_bool (decide_eq_true ⟨trivial, of_decide_eq_true HF.out⟩).symm, below_dN (by go_grown) _⟩
  · have hne : (N != M) = true := by simpa using hNM
    have HF := Lib.hid hNM
    clear hNM
    go_enter Try.func25, Try.ntmps25
    go_wp2
    go_ret
    refine ⟨ret_bool (decide_eq_false (fun h => HF.out h.1)).symm, by go_grown⟩

set_option maxHeartbeats 400000 in
theorem markFrame_any (N : Int) (A : Option Addr) (n c base : Nat) (k : Int) (xs : List Value) (w : World) (ho : w.ownsRow base 5 1 (.slice A n c) n xs) (hn : n ≤ 1048576) (hk0 : 0 ≤ k) (hk1 : k ≤ 1048576) :
    Calls Try.prog 28 #[.agg #[.int .i64 N, .slice A n c], .int .i64 k] w fun e w' => e = .returned (.int .i64 (k + n)) ∧
      w'.ownsRow base 5 1 (.slice A n c) n ((List.range n).map fun (j : Nat) => mk8 (k + j)) ∧ w.grownBy w' (Value.slice A n c).ownBlock := by
  have HO := Lib.hid ho
  clear ho
  go_enter Try.func28, Try.ntmps28
  go_wp2_with fail
  refine (markByte A n c base k xs _ (HO.out.alloc _) hn hk0 (by omega)).mono ?_
  rintro e w1 ⟨rfl, h1, h2⟩
  have H1 := Lib.hid h1
  have H2 := Lib.hid h2
  clear h1 h2
  go_wp2
  go_ret
  exact ⟨rfl, H1.out, (World.grownBy_alloc _ _ _).trans H2.out⟩

theorem toFrame_new (N : Int) (A : Option Addr) (c : Nat) (L : List Nat) (w : World) (hL : Lies w B8 A L) (hn : L.length ≤ 17592186044416) :
    Calls Try.prog 23 #[.agg #[.int .i64 N, .slice A L.length c]] w (NewFrame1 w N L) :=
  (toFrame_any N A c L w hL hn).mono fun _ _ h => ⟨_, _, h.1, h.2.1, h.2.2⟩

theorem eqFrame_true (N : Int) (A B : Option Addr) (c d : Nat) (L : List Nat) (w : World) (hL : Lies w B8 A L) (hK : Lies w B8 B L) (hn : L.length ≤ 17592186044416) :
    Calls Try.prog 25 #[.agg #[.int .i64 N, .slice A L.length c], .agg #[.int .i64 N, .slice B L.length d]] w fun e w' => e = .returned (.bool true) ∧ Below w.heap.size w w' :=
  (eqFrame_any N N A B c d L L w hL hK hn).mono fun _ _ h => ⟨by rw [h.1, decide_eq_true ⟨rfl, rfl⟩], h.2⟩

end Go.Proofs.Ytlbnngolcoefdaa
