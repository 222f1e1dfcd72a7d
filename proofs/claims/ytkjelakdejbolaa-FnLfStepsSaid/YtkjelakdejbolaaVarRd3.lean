/- The specification's VarRead. -/
import Derived.Test.YtkjelakdejbolaaVarRd2
import Derived.Deep.RegionWith
import Derived.Deep.RegionHeld3
namespace Go.Proofs.Ytkjelakdejbolaa
open Go.RowKit
set_option maxRecDepth 100000

theorem varF_byte : ∀ (f u : Nat), u < 128 * 128 ^ f → ∀ x ∈ varF f u, x < 2 ^ 8
  | 0, u, h, x, hx => by
    simp [varF] at hx
    omega
  | f + 1, u, h, x, hx => by
    rw [varF] at hx
    split at hx
    · simp at hx
      omega
    · rcases List.mem_cons.1 hx with rfl | hx
      · omega
      · exact varF_byte f (u / 128) (by rw [Nat.pow_succ] at h; omega) x hx
theorem varV_byte (n : Int) : ∀ x ∈ varV n, x < 2 ^ 8 := by
  unfold varV
  split
  · exact varF_byte 4 _ (by omega)
  · simp
theorem own_addr {w : World} {base n c : Nat} {e : TypeId} {A : Option Addr} {xs : List Value} (h : w.ownsRow base e 1 (.slice A n c) n xs) : A = none ∨ ∃ b o, A = some ⟨b, o, none⟩ := by
  rcases h.2 with ⟨h, _⟩ | ⟨g, cap, cur, h, _⟩
  · injection h with h
    exact .inl h
  · injection h with h
    exact .inr ⟨_, _, h⟩

/-- Reading on from the start: all bytes so far go on. -/
theorem rd_from (C : List Nat) : ∀ k, k ≤ 5 → (∀ y ∈ C.take k, 128 ≤ y) → k ≤ C.length → rdF 5 0 0 C = rdF (5 - k) k (val7 (C.take k)) (C.drop k)
  | 0, _, _, _ => by simp [val7]
  | k + 1, hk, hC, hl => by
    have hx : C[k]? = some C[k] := List.getElem?_eq_getElem (by omega)
    have e : C.take (k + 1) = C.take k ++ [C[k]] := List.take_succ_eq_append_getElem (by omega)
    rw [rd_from C k (by omega) (fun y hy => hC y (by rw [e]; exact List.mem_append_left _ hy)) (by omega), show 5 - k = (4 - k) + 1 by omega, rd_step hx,
      if_pos (hC C[k] (e ▸ List.mem_append_right _ (List.mem_singleton.2 rfl))), e, val7_snoc, List.length_take, Nat.min_eq_left (by omega), show 5 - (k + 1) = 4 - k by omega]

end Go.Proofs.Ytkjelakdejbolaa
