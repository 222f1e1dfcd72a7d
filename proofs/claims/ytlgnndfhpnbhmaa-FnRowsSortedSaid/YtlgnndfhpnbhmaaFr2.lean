/- FrameOf, the program's. -/
import Derived.Test.YtlgnndfhpnbhmaaAppB
import Derived.Test.YtlgnndfhpnbhmaaCrc1
import Derived.Test.YtlgnndfhpnbhmaaFr1
import Derived.Test.YtlgnndfhpnbhmaaVarRd3
namespace Go.Proofs.Ytlgnndfhpnbhmaa
open Go.RowKit
set_option maxRecDepth 100000

theorem box_two {w0 w' : World} {g : Nat} {t : TypeId} {a b : Value} (hx : Box w0 g t #[a, b]) (hb : Below w0.heap.size w0 w') : w'.cell? ⟨g, 0, none⟩ = some a ∧ w'.cell? ⟨g, 1, none⟩ = some b ∧ g < w'.heap.size :=
  ⟨(hx.below hb hx.lt).cell 0, (hx.below hb hx.lt).cell 1, (hx.below hb hx.lt).lt⟩
theorem frD_byte {k : Nat} {L : List Nat} (hk : k ≤ 255) (hL : ∀ x ∈ L, x < 2 ^ 8) : ∀ x ∈ frD k L, x < 2 ^ 8 := by
  intro x hx
  have hv := varV_byte (L.length : Int)
  unfold frD at hx
  simp only [List.mem_append, List.mem_cons] at hx
  rcases hx with rfl | rfl | hx | hx
  · decide
  · omega
  · exact hv x hx
  · exact hL x hx
theorem frD_len (k : Nat) (L : List Nat) (hl : L.length ≤ 8000) : (frD k L).length ≤ 8010 := by
  have := varV_len (L.length : Int)
  unfold frD
  simp only [List.length_cons, List.length_append]
  omega
theorem crcV_frD (k : Nat) (L : List Nat) (hl : L.length ≤ 8000) : crcV (frD k L) = (crcL (frD k L) : Int) := by
  have := frD_len k L hl
  unfold crcV
  rw [if_neg (by omega)]

end Go.Proofs.Ytlgnndfhpnbhmaa
