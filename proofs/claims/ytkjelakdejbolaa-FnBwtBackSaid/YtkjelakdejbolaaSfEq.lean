/- Bytes told to be equal, or to begin a list: the library's and the specification's. -/
import Derived.Test.YtkjelakdejbolaaSlCut
import Derived.Test.YtkjelakdejbolaaSf2
import Derived.BigQuiet
namespace Go.Proofs.Ytkjelakdejbolaa
open Go.RowKit
set_option maxRecDepth 100000

theorem Tidy.shape {A : Option Addr} {c : Nat} (h : Tidy A c) : A = none ∨ ∃ b o, A = some ⟨b, o, none⟩ := h.elim (fun h => .inl h.1) .inr
theorem bstr_list {L M : List Nat} (hl : ∀ x ∈ L, x < 2 ^ 8) (hm : ∀ x ∈ M, x < 2 ^ 8) : ((bstr L).toList == (bstr M).toList) = decide (L = M) := by
  by_cases h : L = M
  · subst h
    simp
  · rw [decide_eq_false h, beq_eq_false_iff_ne]
    intro e
    rw [ByteArray.toList_eq, ByteArray.toList_eq] at e
    exact h (bstr_inj hl hm (ByteArray.ext (Array.toList_inj.mp e)))

end Go.Proofs.Ytkjelakdejbolaa
