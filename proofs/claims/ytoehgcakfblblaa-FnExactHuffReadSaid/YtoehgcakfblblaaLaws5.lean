/- Contracts of the laws' own copies and comparisons of bit vectors. -/
import Derived.Test.YtoehgcakfblblaaLaws2
import Derived.Test.YtoehgcakfblblaaLaws3
namespace Go.Proofs.Ytoehgcakfblblaa
open Go.RowKit
set_option maxRecDepth 100000

set_option maxHeartbeats 400000 in
theorem toBits_any (N : Int) (A : Option Addr) (c : Nat) (L : List Nat) (w : World) (hL : Lies w U A L) (hn : L.length ≤ 17592186044416) :
    Calls Try.prog 50 #[.agg #[.int .i64 N, .slice A L.length c]] w fun e w' => e = .returned (.agg #[.int .i64 N, .slice (some ⟨w.heap.size + 3, 0, none⟩) L.length L.length]) ∧
      w'.ownsRow w.heap.size 123 1 (.slice (some ⟨w.heap.size + 3, 0, none⟩) L.length L.length) L.length (L.map U) ∧ Below w.heap.size w w' := by
  go_enter Try.func50, Try.ntmps50
  go_wp2_with fail
  refine (toU64 A c L _ (hL.below ((((Below.refl _ _).alloc (by simp) _).alloc (by simp) _).alloc (by simp; omega) _)) hn).mono ?_
  rintro e w1 ⟨rfl, hown, hb⟩
  obtain ⟨hc, hf⟩ := bcell hb
  have hz : w.heap.size + 3 ≤ w1.heap.size := by have := hb.size; simp at this; omega
  have HO := Lib.hid hown
  have HB := Lib.hid hb
  clear hown hb hL
  go_wp2
  refine bodyPost_ret (v := .agg #[.int .i64 N, .slice (some ⟨w.heap.size + 3, 0, none⟩) L.length L.length]) (by simp [results, Try.results50, go_sem, hc, hz]) rfl ⟨rfl, ?_, ?_⟩
  · have h := HO.out
    simp only [World.size_alloc] at h
    exact own_mono (ownsRow_setCell_below (ownsRow_setCell_below (ownsRow_setCell_below h (by go_size) _) (by go_size) _) (by go_size) _) (by go_size)
  · refine Below.setCell (Below.setCell (Below.setCell (Below.trans ?_ (HB.out.mono (by go_size))) (by go_size) _) (by go_size) _) (by go_size) _
    go_grown

set_option maxHeartbeats 400000 in
theorem eqBits_any (N M : Int) (A B : Option Addr) (c d : Nat) (L K : List Nat) (w : World) (hL : Lies w U A L) (hK : Lies w U B K) (hn : L.length ≤ 17592186044416) :
    Calls Try.prog 45 #[.agg #[.int .i64 N, .slice A L.length c], .agg #[.int .i64 M, .slice B K.length d]] w fun e w' => e = .returned (.bool (decide (N = M ∧ L = K))) ∧ Below w.heap.size w w' := by
  by_cases hNM : N = M
  · subst hNM
    go_enter Try.func45, Try.ntmps45
    go_wp2_with fail
    refine (eqU64 A B c d L K _ (hL.below (by go_grown)) (hK.below (by go_grown)) hn).mono ?_
    rintro e w1 ⟨rfl, n, rfl⟩
    clear hL hK
    cases hb : decide (L = K)
    · have HF := Lib.hid hb
      clear hb
      go_wp2
      go_ret
      refine ⟨ret_bool (decide_eq_false (fun h => of_decide_eq_false HF.out h.2)).symm, below_dN (by go_grown) _⟩
    · have HF := Lib.hid hb
      clear hb
      go_wp2
      go_ret
      refine ⟨ret_bool (decide_eq_true ⟨trivial, of_decide_eq_true HF.out⟩).symm, below_dN (by go_grown) _⟩
  · have hne : (N != M) = true := by simpa using hNM
    have HF := Lib.hid hNM
    clear hNM
    go_enter Try.func45, Try.ntmps45
    go_wp2
    go_ret
    refine ⟨ret_bool (decide_eq_false (fun h => HF.out h.1)).symm, by go_grown⟩

end Go.Proofs.Ytoehgcakfblblaa
