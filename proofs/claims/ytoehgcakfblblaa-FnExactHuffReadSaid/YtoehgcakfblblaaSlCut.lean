/- Slices cut: what lies behind a slice's piece. Nothing of the program stands here. -/
import Derived.Test.YtoehgcakfblblaaAppI
namespace Go.Proofs.Ytoehgcakfblblaa
open Go.RowKit

section
variable {P : Program} {α : Type} {f : α → Value} {T : TypeId}

theorem slice_drop (ht : P.underlying T = some (.slice (P.elem T))) (hz : ∀ W : World, (sizeOf (P.elem T)).run P W = .ok 1 W) (A : Option Addr) (n c : Nat) (L : List α) (i : Nat) (w : World) (Hn : Hid (L.length = n)) (hL : Lies w f A L) (hA : Tidy A c) (hi : i ≤ n) (hc : n ≤ c) :
    ∃ A', (∀ W : World, (Instr.slice T (.slice A n c) (some (.int .i64 (i : Int))) none none).run P W = .ok (.slice A' (L.drop i).length (c - i)) W) ∧ Lies w f A' (L.drop i) ∧ Tidy A' (c - i) := by
  have hn := Hn.out
  have e : (L.drop i).length = n - i := by rw [List.length_drop, hn]
  rw [e]
  rcases hA with ⟨rfl, rfl⟩ | ⟨b, o, rfl⟩
  · obtain rfl : i = 0 := by omega
    refine ⟨none, fun W => ?_, by simpa using hL, .inl ⟨rfl, rfl⟩⟩
    rw [run_slice_l (P := P) W T none n 0 ht .i64 ((0 : Nat) : Int) (by omega) (by omega), hz]
    rfl
  · by_cases hct : c = i
    · refine ⟨some ⟨b, o, none⟩, fun W => ?_, ?_, .inr ⟨_, _, rfl⟩⟩
      · rw [run_slice_l (P := P) W T _ n c ht .i64 (i : Int) (by omega) (by omega), hz, Int.toNat_natCast]
        simp [Result.andThen, sliced, hct]
      · have : L.drop i = [] := List.length_eq_zero_iff.1 (by omega)
        rw [this]
        exact Lies.nil_
    · refine ⟨some ⟨b, o + i, none⟩, fun W => ?_, ?_, .inr ⟨_, _, rfl⟩⟩
      · rw [run_slice_l (P := P) W T _ n c ht .i64 (i : Int) (by omega) (by omega), hz, Int.toNat_natCast]
        simp [Result.andThen, sliced, hct, Addr.add]
      · have h := hL.piece i (n - i)
        rwa [List.take_of_length_le (by omega)] at h

theorem slice_take (ht : P.underlying T = some (.slice (P.elem T))) (hz : ∀ W : World, (sizeOf (P.elem T)).run P W = .ok 1 W) (A : Option Addr) (n c : Nat) (L : List α) (i : Nat) (w : World) (Hn : Hid (L.length = n)) (hL : Lies w f A L) (hA : Tidy A c) (hi : i ≤ n) (hc : n ≤ c) :
    ∃ A', (∀ W : World, (Instr.slice T (.slice A n c) none (some (.int .i64 (i : Int))) none).run P W = .ok (.slice A' (L.take i).length c) W) ∧ Lies w f A' (L.take i) ∧ Tidy A' c := by
  have hn := Hn.out
  have e : (L.take i).length = i := by rw [List.length_take, hn]; omega
  rw [e]
  refine ⟨A, fun W => ?_, hL.front i, hA⟩
  rw [run_slice_h (P := P) W T A n c ht .i64 (i : Int) (by omega) (by omega), hz, Int.toNat_natCast]
  rcases hA with ⟨rfl, rfl⟩ | ⟨b, o, rfl⟩
  · simp [Result.andThen, sliced]
  · simp [Result.andThen, sliced, Addr.add]
end

theorem row_cap {w : World} {base n c : Nat} {e : TypeId} {A : Option Addr} {xs : List Value} (h : w.ownsRow base e 1 (.slice A n c) n xs) : n ≤ c ∧ c ≤ 9223372036854775807 := by
  rcases h.2 with ⟨h, hn⟩ | ⟨g, cap, cur, hv, _, _, h1, h2, _⟩
  · injection h with _ e1 e2
    omega
  · injection hv with _ _ e
    unfold maxLen at h2
    omega

theorem Drawn.b {w w' : World} (h : Drawn w w') : Below w.heap.size w w' := h.below _

theorem Try.elemBytes : Try.prog.underlying 22 = some (.slice (Try.prog.elem 22)) := by kernel_rfl
theorem Try.sizeByte (W : World) : (sizeOf (Try.prog.elem 22)).run Try.prog W = .ok 1 W := by kernel_rfl
theorem Try.elemInts : Try.prog.underlying 24 = some (.slice (Try.prog.elem 24)) := by kernel_rfl
theorem Try.sizeInt (W : World) : (sizeOf (Try.prog.elem 24)).run Try.prog W = .ok 1 W := by kernel_rfl

end Go.Proofs.Ytoehgcakfblblaa
