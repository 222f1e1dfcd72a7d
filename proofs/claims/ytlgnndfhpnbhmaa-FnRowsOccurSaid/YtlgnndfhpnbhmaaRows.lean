/-
  No cell of these rows narrows 'for every input' (looked for: loops, veiled, ifaces, maps, wideKeys, modest, calm, conditions, laid).
  DERIVED. THE GIVEN ROWS OF THIS SEAT. 10 by the template 'for every input the law returns true; each argument reads behind the call as it read before'; 0 by the template 'total and deterministic' (their statements: YtlgnndfhpnbhmaaTotals.lean).
  GIVEN WITH THE SEED: the statements are not yours to turn. If you find one false, say at which input.
  Laid BY PROGRAM, IN A SANDBOX (cutbox-rows.mjs): the forced cells as the released guide's own fill.sh prints them over the translation c9ce6e6d936fa37c… (all of the seat's roots in one cut). By AI agents, Wed Nov 11 2026. No macro, syntax, notation, axiom, sorry.
-/
import Derived.Test.YtlgnndfhpnbhmaaChecked
import GoSem.Claim
import GoSem.ClaimJoined
import GoSem.ClaimMapViews
import Derived.JoinedTies
import Derived.KernelRfl
namespace Go.Proofs.Ytlgnndfhpnbhmaa
/- THE CELL 'sum', in the pinned program and in every row, IS THE sha256 OF THE DUMP (.gsa) THAT YtlgnndfhpnbhmaaProg.lean LOADS. Nothing in Lean hashes anything: it is a label: what it is worth is what the hold of that sum in a sandbox is worth. -/
noncomputable def Try.pinned : Pinned := { name := "ytlgnndfhpnbhmaa", sum := "c9ce6e6d936fa37ce5bddfc745d036f101e7b4888149f0920f41449615514093", checked := Try.checked }
namespace Rows
def none {H : Type} : Left H := { results := [], args := [] }

/-- 'laws.FnRowsSorted': WHATEVER THE INPUT: true; the input reads as it did. -/
def fnRowsSortedSpec : ChangeSpec := { name := "fnRowsSorted", fn := fun _ => fun
  | [d] => { results := [.lit (.bool true)], args := [d] }
  | _ => none }
def fnRowsSortedRow : OpenClaim := { program := "ytlgnndfhpnbhmaa", sum := "c9ce6e6d936fa37ce5bddfc745d036f101e7b4888149f0920f41449615514093", func := "loop.example/g00688/laws.FnRowsSorted", spec := "fnRowsSorted", inPlace := ["internal/bytealg.Compare"], unfollowed := true, recurses := true, apart := false }
def FnRowsSortedSaid : Prop := fnRowsSortedRow.holds Try.pinned (OpenSpec.ofChange fnRowsSortedSpec)

/-- ITS FALSE NEIGHBOUR: 'it returns false'. Refute it at one input. -/
def fnRowsSortedWrong : ChangeSpec := { name := "fnRowsSorted", fn := fun _ => fun
  | [d] => { results := [.lit (.bool false)], args := [d] }
  | _ => none }
def FnRowsSortedWrongFalsely : Prop := fnRowsSortedRow.holds Try.pinned (OpenSpec.ofChange fnRowsSortedWrong)

/-- 'laws.FnLcpMeans': WHATEVER THE INPUT: true; the input reads as it did. -/
def fnLcpMeansSpec : ChangeSpec := { name := "fnLcpMeans", fn := fun _ => fun
  | [d] => { results := [.lit (.bool true)], args := [d] }
  | _ => none }
def fnLcpMeansRow : OpenClaim := { program := "ytlgnndfhpnbhmaa", sum := "c9ce6e6d936fa37ce5bddfc745d036f101e7b4888149f0920f41449615514093", func := "loop.example/g00688/laws.FnLcpMeans", spec := "fnLcpMeans", unfollowed := true, recurses := true, apart := false }
def FnLcpMeansSaid : Prop := fnLcpMeansRow.holds Try.pinned (OpenSpec.ofChange fnLcpMeansSpec)

/-- ITS FALSE NEIGHBOUR: 'it returns false'. Refute it at one input. -/
def fnLcpMeansWrong : ChangeSpec := { name := "fnLcpMeans", fn := fun _ => fun
  | [d] => { results := [.lit (.bool false)], args := [d] }
  | _ => none }
def FnLcpMeansWrongFalsely : Prop := fnLcpMeansRow.holds Try.pinned (OpenSpec.ofChange fnLcpMeansWrong)

/-- 'laws.FnRowsOccur': WHATEVER THE INPUT: true; the input reads as it did. -/
def fnRowsOccurSpec : ChangeSpec := { name := "fnRowsOccur", fn := fun _ => fun
  | [d] => { results := [.lit (.bool true)], args := [d] }
  | _ => none }
def fnRowsOccurRow : OpenClaim := { program := "ytlgnndfhpnbhmaa", sum := "c9ce6e6d936fa37ce5bddfc745d036f101e7b4888149f0920f41449615514093", func := "loop.example/g00688/laws.FnRowsOccur", spec := "fnRowsOccur", inPlace := ["internal/bytealg.Compare"], unfollowed := true, recurses := true, apart := false }
def FnRowsOccurSaid : Prop := fnRowsOccurRow.holds Try.pinned (OpenSpec.ofChange fnRowsOccurSpec)

/-- ITS FALSE NEIGHBOUR: 'it returns false'. Refute it at one input. -/
def fnRowsOccurWrong : ChangeSpec := { name := "fnRowsOccur", fn := fun _ => fun
  | [d] => { results := [.lit (.bool false)], args := [d] }
  | _ => none }
def FnRowsOccurWrongFalsely : Prop := fnRowsOccurRow.holds Try.pinned (OpenSpec.ofChange fnRowsOccurWrong)

/-- 'laws.FnExactTextOk': WHATEVER THE INPUT: true; the input reads as it did. -/
def fnExactTextOkSpec : ChangeSpec := { name := "fnExactTextOk", fn := fun _ => fun
  | [d] => { results := [.lit (.bool true)], args := [d] }
  | _ => none }
def fnExactTextOkRow : OpenClaim := { program := "ytlgnndfhpnbhmaa", sum := "c9ce6e6d936fa37ce5bddfc745d036f101e7b4888149f0920f41449615514093", func := "loop.example/g00688/laws.FnExactTextOk", spec := "fnExactTextOk", apart := false }
def FnExactTextOkSaid : Prop := fnExactTextOkRow.holds Try.pinned (OpenSpec.ofChange fnExactTextOkSpec)

/-- ITS FALSE NEIGHBOUR: 'it returns false'. Refute it at one input. -/
def fnExactTextOkWrong : ChangeSpec := { name := "fnExactTextOk", fn := fun _ => fun
  | [d] => { results := [.lit (.bool false)], args := [d] }
  | _ => none }
def FnExactTextOkWrongFalsely : Prop := fnExactTextOkRow.holds Try.pinned (OpenSpec.ofChange fnExactTextOkWrong)

/-- 'laws.FnExactSuffixCmp': WHATEVER THE INPUT: true; the input reads as it did. -/
def fnExactSuffixCmpSpec : ChangeSpec := { name := "fnExactSuffixCmp", fn := fun _ => fun
  | [d1, d2, d3] => { results := [.lit (.bool true)], args := [d1, d2, d3] }
  | _ => none }
def fnExactSuffixCmpRow : OpenClaim := { program := "ytlgnndfhpnbhmaa", sum := "c9ce6e6d936fa37ce5bddfc745d036f101e7b4888149f0920f41449615514093", func := "loop.example/g00688/laws.FnExactSuffixCmp", spec := "fnExactSuffixCmp", inPlace := ["internal/bytealg.Compare"], apart := false }
def FnExactSuffixCmpSaid : Prop := fnExactSuffixCmpRow.holds Try.pinned (OpenSpec.ofChange fnExactSuffixCmpSpec)

/-- ITS FALSE NEIGHBOUR: 'it returns false'. Refute it at one input. -/
def fnExactSuffixCmpWrong : ChangeSpec := { name := "fnExactSuffixCmp", fn := fun _ => fun
  | [d1, d2, d3] => { results := [.lit (.bool false)], args := [d1, d2, d3] }
  | _ => none }
def FnExactSuffixCmpWrongFalsely : Prop := fnExactSuffixCmpRow.holds Try.pinned (OpenSpec.ofChange fnExactSuffixCmpWrong)

/-- 'laws.FnExactSuffixRows': WHATEVER THE INPUT: true; the input reads as it did. -/
def fnExactSuffixRowsSpec : ChangeSpec := { name := "fnExactSuffixRows", fn := fun _ => fun
  | [d] => { results := [.lit (.bool true)], args := [d] }
  | _ => none }
def fnExactSuffixRowsRow : OpenClaim := { program := "ytlgnndfhpnbhmaa", sum := "c9ce6e6d936fa37ce5bddfc745d036f101e7b4888149f0920f41449615514093", func := "loop.example/g00688/laws.FnExactSuffixRows", spec := "fnExactSuffixRows", unfollowed := true, recurses := true, apart := false }
def FnExactSuffixRowsSaid : Prop := fnExactSuffixRowsRow.holds Try.pinned (OpenSpec.ofChange fnExactSuffixRowsSpec)

/-- ITS FALSE NEIGHBOUR: 'it returns false'. Refute it at one input. -/
def fnExactSuffixRowsWrong : ChangeSpec := { name := "fnExactSuffixRows", fn := fun _ => fun
  | [d] => { results := [.lit (.bool false)], args := [d] }
  | _ => none }
def FnExactSuffixRowsWrongFalsely : Prop := fnExactSuffixRowsRow.holds Try.pinned (OpenSpec.ofChange fnExactSuffixRowsWrong)

/-- 'laws.FnExactInverse': WHATEVER THE INPUT: true; the input reads as it did. -/
def fnExactInverseSpec : ChangeSpec := { name := "fnExactInverse", fn := fun _ => fun
  | [d] => { results := [.lit (.bool true)], args := [d] }
  | _ => none }
def fnExactInverseRow : OpenClaim := { program := "ytlgnndfhpnbhmaa", sum := "c9ce6e6d936fa37ce5bddfc745d036f101e7b4888149f0920f41449615514093", func := "loop.example/g00688/laws.FnExactInverse", spec := "fnExactInverse", apart := false }
def FnExactInverseSaid : Prop := fnExactInverseRow.holds Try.pinned (OpenSpec.ofChange fnExactInverseSpec)

/-- ITS FALSE NEIGHBOUR: 'it returns false'. Refute it at one input. -/
def fnExactInverseWrong : ChangeSpec := { name := "fnExactInverse", fn := fun _ => fun
  | [d] => { results := [.lit (.bool false)], args := [d] }
  | _ => none }
def FnExactInverseWrongFalsely : Prop := fnExactInverseRow.holds Try.pinned (OpenSpec.ofChange fnExactInverseWrong)

/-- 'laws.FnExactLcpRows': WHATEVER THE INPUT: true; the input reads as it did. -/
def fnExactLcpRowsSpec : ChangeSpec := { name := "fnExactLcpRows", fn := fun _ => fun
  | [d] => { results := [.lit (.bool true)], args := [d] }
  | _ => none }
def fnExactLcpRowsRow : OpenClaim := { program := "ytlgnndfhpnbhmaa", sum := "c9ce6e6d936fa37ce5bddfc745d036f101e7b4888149f0920f41449615514093", func := "loop.example/g00688/laws.FnExactLcpRows", spec := "fnExactLcpRows", unfollowed := true, recurses := true, apart := false }
def FnExactLcpRowsSaid : Prop := fnExactLcpRowsRow.holds Try.pinned (OpenSpec.ofChange fnExactLcpRowsSpec)

/-- ITS FALSE NEIGHBOUR: 'it returns false'. Refute it at one input. -/
def fnExactLcpRowsWrong : ChangeSpec := { name := "fnExactLcpRows", fn := fun _ => fun
  | [d] => { results := [.lit (.bool false)], args := [d] }
  | _ => none }
def FnExactLcpRowsWrongFalsely : Prop := fnExactLcpRowsRow.holds Try.pinned (OpenSpec.ofChange fnExactLcpRowsWrong)

/-- 'laws.FnExactOccurs': WHATEVER THE INPUT: true; the input reads as it did. -/
def fnExactOccursSpec : ChangeSpec := { name := "fnExactOccurs", fn := fun _ => fun
  | [d1, d2] => { results := [.lit (.bool true)], args := [d1, d2] }
  | _ => none }
def fnExactOccursRow : OpenClaim := { program := "ytlgnndfhpnbhmaa", sum := "c9ce6e6d936fa37ce5bddfc745d036f101e7b4888149f0920f41449615514093", func := "loop.example/g00688/laws.FnExactOccurs", spec := "fnExactOccurs", apart := false }
def FnExactOccursSaid : Prop := fnExactOccursRow.holds Try.pinned (OpenSpec.ofChange fnExactOccursSpec)

/-- ITS FALSE NEIGHBOUR: 'it returns false'. Refute it at one input. -/
def fnExactOccursWrong : ChangeSpec := { name := "fnExactOccurs", fn := fun _ => fun
  | [d1, d2] => { results := [.lit (.bool false)], args := [d1, d2] }
  | _ => none }
def FnExactOccursWrongFalsely : Prop := fnExactOccursRow.holds Try.pinned (OpenSpec.ofChange fnExactOccursWrong)

/-- 'laws.FnExactRowsOf': WHATEVER THE INPUT: true; the input reads as it did. -/
def fnExactRowsOfSpec : ChangeSpec := { name := "fnExactRowsOf", fn := fun _ => fun
  | [d1, d2] => { results := [.lit (.bool true)], args := [d1, d2] }
  | _ => none }
def fnExactRowsOfRow : OpenClaim := { program := "ytlgnndfhpnbhmaa", sum := "c9ce6e6d936fa37ce5bddfc745d036f101e7b4888149f0920f41449615514093", func := "loop.example/g00688/laws.FnExactRowsOf", spec := "fnExactRowsOf", inPlace := ["internal/bytealg.Compare"], unfollowed := true, recurses := true, apart := false }
def FnExactRowsOfSaid : Prop := fnExactRowsOfRow.holds Try.pinned (OpenSpec.ofChange fnExactRowsOfSpec)

/-- ITS FALSE NEIGHBOUR: 'it returns false'. Refute it at one input. -/
def fnExactRowsOfWrong : ChangeSpec := { name := "fnExactRowsOf", fn := fun _ => fun
  | [d1, d2] => { results := [.lit (.bool false)], args := [d1, d2] }
  | _ => none }
def FnExactRowsOfWrongFalsely : Prop := fnExactRowsOfRow.holds Try.pinned (OpenSpec.ofChange fnExactRowsOfWrong)

/- THE SECOND FORM. 'bulk': how many values and letters a reading holds, each counted each time it is reached (what is shared counts as often as it is met; a slice's spare places count too). A statement '..UptoSaid' is the law's where the arguments, and the package variables that the reading takes, are together of bulk at most 1048576: NARROWER than '..Said'. Prove '..Said' where nothing that the law and all that it calls make is longer than what came in: it says more and counts as full. Else prove '..UptoSaid'. A law counts once. -/
mutual
def uptoBulk {H : Type} : DataW H → Nat
  | .lit (.string bytes) => bytes.length + 1
  | .lit _ => 1
  | .nil => 1
  | .ptr d => uptoBulk d + 1
  | .slice elems spare => uptoBulkAll elems + uptoBulkAll spare + 1
  | .agg parts => uptoBulkAll parts + 1
  | .iface _ d => uptoBulk d + 1
  | .map entries => uptoBulkEntries entries + 1
  | .held _ => 1
def uptoBulkAll {H : Type} : List (DataW H) → Nat
  | [] => 0
  | d :: r => uptoBulk d + uptoBulkAll r
def uptoBulkEntries {H : Type} : List (Lit × DataW H) → Nat
  | [] => 0
  | x :: r => uptoBulkEntry x + uptoBulkEntries r
def uptoBulkEntry {H : Type} : Lit × DataW H → Nat
  | (.string bytes, d) => bytes.length + uptoBulk d + 1
  | (_, d) => uptoBulk d + 1
 end
def uptoSmall : (H : Type) → List (DataW H) → Bool := fun _ ds => decide (uptoBulkAll ds ≤ 1048576)
def OpenSpec.upto (s : _root_.Go.ChangeSpec) : _root_.Go.OpenSpec := { _root_.Go.OpenSpec.ofChange s with cond := some uptoSmall }

/-- 'laws.FnRowsSorted', WHERE WHAT IT READS IS OF BULK AT MOST 1048576: true; the input reads as it did. -/
def fnRowsSortedUptoRow : OpenClaim := { program := "ytlgnndfhpnbhmaa", sum := "c9ce6e6d936fa37ce5bddfc745d036f101e7b4888149f0920f41449615514093", func := "loop.example/g00688/laws.FnRowsSorted", spec := "fnRowsSorted", inPlace := ["internal/bytealg.Compare"], unfollowed := true, recurses := true, apart := false, narrowed := true }
def FnRowsSortedUptoSaid : Prop := fnRowsSortedUptoRow.holds Try.pinned (OpenSpec.upto fnRowsSortedSpec)

/-- 'laws.FnLcpMeans', WHERE WHAT IT READS IS OF BULK AT MOST 1048576: true; the input reads as it did. -/
def fnLcpMeansUptoRow : OpenClaim := { program := "ytlgnndfhpnbhmaa", sum := "c9ce6e6d936fa37ce5bddfc745d036f101e7b4888149f0920f41449615514093", func := "loop.example/g00688/laws.FnLcpMeans", spec := "fnLcpMeans", unfollowed := true, recurses := true, apart := false, narrowed := true }
def FnLcpMeansUptoSaid : Prop := fnLcpMeansUptoRow.holds Try.pinned (OpenSpec.upto fnLcpMeansSpec)

/-- 'laws.FnRowsOccur', WHERE WHAT IT READS IS OF BULK AT MOST 1048576: true; the input reads as it did. -/
def fnRowsOccurUptoRow : OpenClaim := { program := "ytlgnndfhpnbhmaa", sum := "c9ce6e6d936fa37ce5bddfc745d036f101e7b4888149f0920f41449615514093", func := "loop.example/g00688/laws.FnRowsOccur", spec := "fnRowsOccur", inPlace := ["internal/bytealg.Compare"], unfollowed := true, recurses := true, apart := false, narrowed := true }
def FnRowsOccurUptoSaid : Prop := fnRowsOccurUptoRow.holds Try.pinned (OpenSpec.upto fnRowsOccurSpec)

/-- 'laws.FnExactTextOk', WHERE WHAT IT READS IS OF BULK AT MOST 1048576: true; the input reads as it did. -/
def fnExactTextOkUptoRow : OpenClaim := { program := "ytlgnndfhpnbhmaa", sum := "c9ce6e6d936fa37ce5bddfc745d036f101e7b4888149f0920f41449615514093", func := "loop.example/g00688/laws.FnExactTextOk", spec := "fnExactTextOk", apart := false, narrowed := true }
def FnExactTextOkUptoSaid : Prop := fnExactTextOkUptoRow.holds Try.pinned (OpenSpec.upto fnExactTextOkSpec)

/-- 'laws.FnExactSuffixCmp', WHERE WHAT IT READS IS OF BULK AT MOST 1048576: true; the input reads as it did. -/
def fnExactSuffixCmpUptoRow : OpenClaim := { program := "ytlgnndfhpnbhmaa", sum := "c9ce6e6d936fa37ce5bddfc745d036f101e7b4888149f0920f41449615514093", func := "loop.example/g00688/laws.FnExactSuffixCmp", spec := "fnExactSuffixCmp", inPlace := ["internal/bytealg.Compare"], apart := false, narrowed := true }
def FnExactSuffixCmpUptoSaid : Prop := fnExactSuffixCmpUptoRow.holds Try.pinned (OpenSpec.upto fnExactSuffixCmpSpec)

/-- 'laws.FnExactSuffixRows', WHERE WHAT IT READS IS OF BULK AT MOST 1048576: true; the input reads as it did. -/
def fnExactSuffixRowsUptoRow : OpenClaim := { program := "ytlgnndfhpnbhmaa", sum := "c9ce6e6d936fa37ce5bddfc745d036f101e7b4888149f0920f41449615514093", func := "loop.example/g00688/laws.FnExactSuffixRows", spec := "fnExactSuffixRows", unfollowed := true, recurses := true, apart := false, narrowed := true }
def FnExactSuffixRowsUptoSaid : Prop := fnExactSuffixRowsUptoRow.holds Try.pinned (OpenSpec.upto fnExactSuffixRowsSpec)

/-- 'laws.FnExactInverse', WHERE WHAT IT READS IS OF BULK AT MOST 1048576: true; the input reads as it did. -/
def fnExactInverseUptoRow : OpenClaim := { program := "ytlgnndfhpnbhmaa", sum := "c9ce6e6d936fa37ce5bddfc745d036f101e7b4888149f0920f41449615514093", func := "loop.example/g00688/laws.FnExactInverse", spec := "fnExactInverse", apart := false, narrowed := true }
def FnExactInverseUptoSaid : Prop := fnExactInverseUptoRow.holds Try.pinned (OpenSpec.upto fnExactInverseSpec)

/-- 'laws.FnExactLcpRows', WHERE WHAT IT READS IS OF BULK AT MOST 1048576: true; the input reads as it did. -/
def fnExactLcpRowsUptoRow : OpenClaim := { program := "ytlgnndfhpnbhmaa", sum := "c9ce6e6d936fa37ce5bddfc745d036f101e7b4888149f0920f41449615514093", func := "loop.example/g00688/laws.FnExactLcpRows", spec := "fnExactLcpRows", unfollowed := true, recurses := true, apart := false, narrowed := true }
def FnExactLcpRowsUptoSaid : Prop := fnExactLcpRowsUptoRow.holds Try.pinned (OpenSpec.upto fnExactLcpRowsSpec)

/-- 'laws.FnExactOccurs', WHERE WHAT IT READS IS OF BULK AT MOST 1048576: true; the input reads as it did. -/
def fnExactOccursUptoRow : OpenClaim := { program := "ytlgnndfhpnbhmaa", sum := "c9ce6e6d936fa37ce5bddfc745d036f101e7b4888149f0920f41449615514093", func := "loop.example/g00688/laws.FnExactOccurs", spec := "fnExactOccurs", apart := false, narrowed := true }
def FnExactOccursUptoSaid : Prop := fnExactOccursUptoRow.holds Try.pinned (OpenSpec.upto fnExactOccursSpec)

/-- 'laws.FnExactRowsOf', WHERE WHAT IT READS IS OF BULK AT MOST 1048576: true; the input reads as it did. -/
def fnExactRowsOfUptoRow : OpenClaim := { program := "ytlgnndfhpnbhmaa", sum := "c9ce6e6d936fa37ce5bddfc745d036f101e7b4888149f0920f41449615514093", func := "loop.example/g00688/laws.FnExactRowsOf", spec := "fnExactRowsOf", inPlace := ["internal/bytealg.Compare"], unfollowed := true, recurses := true, apart := false, narrowed := true }
def FnExactRowsOfUptoSaid : Prop := fnExactRowsOfUptoRow.holds Try.pinned (OpenSpec.upto fnExactRowsOfSpec)

end Rows
end Go.Proofs.Ytlgnndfhpnbhmaa
