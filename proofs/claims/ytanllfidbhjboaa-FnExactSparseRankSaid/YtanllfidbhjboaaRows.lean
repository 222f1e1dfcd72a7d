/-
  No cell of these rows narrows 'for every input' (looked for: loops, veiled, ifaces, maps, wideKeys, modest, calm, conditions, laid).
  DERIVED. THE GIVEN ROWS OF THIS SEAT. 4 by the template 'for every input the law returns true; each argument reads behind the call as it read before'; 0 by the template 'total and deterministic' (their statements: YtanllfidbhjboaaTotals.lean).
  GIVEN WITH THE SEED: the statements are not yours to turn. If you find one false, say at which input.
  Laid BY PROGRAM, IN A SANDBOX (cutbox-rows.mjs): the forced cells as the released guide's own fill.sh prints them over the translation d3e458d5e15ea8d5… (all of the seat's roots in one cut). By AI agents, Wed Nov 11 2026. No macro, syntax, notation, axiom, sorry.
-/
import Derived.Test.YtanllfidbhjboaaChecked
import GoSem.Claim
import GoSem.ClaimJoined
import GoSem.ClaimMapViews
import Derived.JoinedTies
import Derived.KernelRfl
namespace Go.Proofs.Ytanllfidbhjboaa
/- THE CELL 'sum', in the pinned program and in every row, IS THE sha256 OF THE DUMP (.gsa) THAT YtanllfidbhjboaaProg.lean LOADS. Nothing in Lean hashes anything: it is a label: what it is worth is what the hold of that sum in a sandbox is worth. -/
noncomputable def Try.pinned : Pinned := { name := "ytanllfidbhjboaa", sum := "d3e458d5e15ea8d51cd265e2d62eb45bd62c4f23bb1e8aaaefd13c81bb49b633", checked := Try.checked }
namespace Rows
def none {H : Type} : Left H := { results := [], args := [] }

/-- 'laws.FnExactSparseOf': WHATEVER THE INPUT: true; the input reads as it did. -/
def fnExactSparseOfSpec : ChangeSpec := { name := "fnExactSparseOf", fn := fun _ => fun
  | [d1, d2] => { results := [.lit (.bool true)], args := [d1, d2] }
  | _ => none }
def fnExactSparseOfRow : OpenClaim := { program := "ytanllfidbhjboaa", sum := "d3e458d5e15ea8d51cd265e2d62eb45bd62c4f23bb1e8aaaefd13c81bb49b633", func := "loop.example/g00688/laws.FnExactSparseOf", spec := "fnExactSparseOf", unfollowed := true, recurses := true, apart := false }
def FnExactSparseOfSaid : Prop := fnExactSparseOfRow.holds Try.pinned (OpenSpec.ofChange fnExactSparseOfSpec)

/-- ITS FALSE NEIGHBOUR: 'it returns false'. Refute it at one input. -/
def fnExactSparseOfWrong : ChangeSpec := { name := "fnExactSparseOf", fn := fun _ => fun
  | [d1, d2] => { results := [.lit (.bool false)], args := [d1, d2] }
  | _ => none }
def FnExactSparseOfWrongFalsely : Prop := fnExactSparseOfRow.holds Try.pinned (OpenSpec.ofChange fnExactSparseOfWrong)

/-- 'laws.FnExactSparseOk': WHATEVER THE INPUT: true; the input reads as it did. -/
def fnExactSparseOkSpec : ChangeSpec := { name := "fnExactSparseOk", fn := fun _ => fun
  | [d] => { results := [.lit (.bool true)], args := [d] }
  | _ => none }
def fnExactSparseOkRow : OpenClaim := { program := "ytanllfidbhjboaa", sum := "d3e458d5e15ea8d51cd265e2d62eb45bd62c4f23bb1e8aaaefd13c81bb49b633", func := "loop.example/g00688/laws.FnExactSparseOk", spec := "fnExactSparseOk", unfollowed := true, recurses := true, apart := false }
def FnExactSparseOkSaid : Prop := fnExactSparseOkRow.holds Try.pinned (OpenSpec.ofChange fnExactSparseOkSpec)

/-- ITS FALSE NEIGHBOUR: 'it returns false'. Refute it at one input. -/
def fnExactSparseOkWrong : ChangeSpec := { name := "fnExactSparseOk", fn := fun _ => fun
  | [d] => { results := [.lit (.bool false)], args := [d] }
  | _ => none }
def FnExactSparseOkWrongFalsely : Prop := fnExactSparseOkRow.holds Try.pinned (OpenSpec.ofChange fnExactSparseOkWrong)

/-- 'laws.FnExactSparseList': WHATEVER THE INPUT: true; the input reads as it did. -/
def fnExactSparseListSpec : ChangeSpec := { name := "fnExactSparseList", fn := fun _ => fun
  | [d] => { results := [.lit (.bool true)], args := [d] }
  | _ => none }
def fnExactSparseListRow : OpenClaim := { program := "ytanllfidbhjboaa", sum := "d3e458d5e15ea8d51cd265e2d62eb45bd62c4f23bb1e8aaaefd13c81bb49b633", func := "loop.example/g00688/laws.FnExactSparseList", spec := "fnExactSparseList", unfollowed := true, recurses := true, apart := false }
def FnExactSparseListSaid : Prop := fnExactSparseListRow.holds Try.pinned (OpenSpec.ofChange fnExactSparseListSpec)

/-- ITS FALSE NEIGHBOUR: 'it returns false'. Refute it at one input. -/
def fnExactSparseListWrong : ChangeSpec := { name := "fnExactSparseList", fn := fun _ => fun
  | [d] => { results := [.lit (.bool false)], args := [d] }
  | _ => none }
def FnExactSparseListWrongFalsely : Prop := fnExactSparseListRow.holds Try.pinned (OpenSpec.ofChange fnExactSparseListWrong)

/-- 'laws.FnExactSparseRank': WHATEVER THE INPUT: true; the input reads as it did. -/
def fnExactSparseRankSpec : ChangeSpec := { name := "fnExactSparseRank", fn := fun _ => fun
  | [d1, d2] => { results := [.lit (.bool true)], args := [d1, d2] }
  | _ => none }
def fnExactSparseRankRow : OpenClaim := { program := "ytanllfidbhjboaa", sum := "d3e458d5e15ea8d51cd265e2d62eb45bd62c4f23bb1e8aaaefd13c81bb49b633", func := "loop.example/g00688/laws.FnExactSparseRank", spec := "fnExactSparseRank", unfollowed := true, recurses := true, apart := false }
def FnExactSparseRankSaid : Prop := fnExactSparseRankRow.holds Try.pinned (OpenSpec.ofChange fnExactSparseRankSpec)

/-- ITS FALSE NEIGHBOUR: 'it returns false'. Refute it at one input. -/
def fnExactSparseRankWrong : ChangeSpec := { name := "fnExactSparseRank", fn := fun _ => fun
  | [d1, d2] => { results := [.lit (.bool false)], args := [d1, d2] }
  | _ => none }
def FnExactSparseRankWrongFalsely : Prop := fnExactSparseRankRow.holds Try.pinned (OpenSpec.ofChange fnExactSparseRankWrong)

/- THE SECOND FORM. 'bulk': how many values and letters a reading holds, each counted each time it is reached (what is shared counts as often as it is met; a slice's spare places count too). A statement '..UptoSaid' is the law's where the arguments, and the package variables that the reading takes, are together of bulk at most 1048576: NARROWER than '..Said'. Prove '..Said' where nothing that the law and all that it calls make is longer than what came in: it says more and counts as full. Else prove '..UptoSaid'. A law counts once. -/
mutual
def uptoBulk {H : Type} : DataW H → Nat
  | .lit (.string bytes) => bytes.length + 1
  | .lit _ => 1
  | .nil => 1
  | .ptr d => uptoBulk d + 1
  | .slice elems spare => uptoBulkAll elems + uptoBulkAll spare + 1
  | .agg parts => uptoBulkAll parts + 1
  | .iface _ d => uptoBulk d + 1
  | .map entries => uptoBulkEntries entries + 1
  | .held _ => 1
def uptoBulkAll {H : Type} : List (DataW H) → Nat
  | [] => 0
  | d :: r => uptoBulk d + uptoBulkAll r
def uptoBulkEntries {H : Type} : List (Lit × DataW H) → Nat
  | [] => 0
  | x :: r => uptoBulkEntry x + uptoBulkEntries r
def uptoBulkEntry {H : Type} : Lit × DataW H → Nat
  | (.string bytes, d) => bytes.length + uptoBulk d + 1
  | (_, d) => uptoBulk d + 1
 end
def uptoSmall : (H : Type) → List (DataW H) → Bool := fun _ ds => decide (uptoBulkAll ds ≤ 1048576)
def OpenSpec.upto (s : _root_.Go.ChangeSpec) : _root_.Go.OpenSpec := { _root_.Go.OpenSpec.ofChange s with cond := some uptoSmall }

/-- 'laws.FnExactSparseOf', WHERE WHAT IT READS IS OF BULK AT MOST 1048576: true; the input reads as it did. -/
def fnExactSparseOfUptoRow : OpenClaim := { program := "ytanllfidbhjboaa", sum := "d3e458d5e15ea8d51cd265e2d62eb45bd62c4f23bb1e8aaaefd13c81bb49b633", func := "loop.example/g00688/laws.FnExactSparseOf", spec := "fnExactSparseOf", unfollowed := true, recurses := true, apart := false, narrowed := true }
def FnExactSparseOfUptoSaid : Prop := fnExactSparseOfUptoRow.holds Try.pinned (OpenSpec.upto fnExactSparseOfSpec)

/-- 'laws.FnExactSparseOk', WHERE WHAT IT READS IS OF BULK AT MOST 1048576: true; the input reads as it did. -/
def fnExactSparseOkUptoRow : OpenClaim := { program := "ytanllfidbhjboaa", sum := "d3e458d5e15ea8d51cd265e2d62eb45bd62c4f23bb1e8aaaefd13c81bb49b633", func := "loop.example/g00688/laws.FnExactSparseOk", spec := "fnExactSparseOk", unfollowed := true, recurses := true, apart := false, narrowed := true }
def FnExactSparseOkUptoSaid : Prop := fnExactSparseOkUptoRow.holds Try.pinned (OpenSpec.upto fnExactSparseOkSpec)

/-- 'laws.FnExactSparseList', WHERE WHAT IT READS IS OF BULK AT MOST 1048576: true; the input reads as it did. -/
def fnExactSparseListUptoRow : OpenClaim := { program := "ytanllfidbhjboaa", sum := "d3e458d5e15ea8d51cd265e2d62eb45bd62c4f23bb1e8aaaefd13c81bb49b633", func := "loop.example/g00688/laws.FnExactSparseList", spec := "fnExactSparseList", unfollowed := true, recurses := true, apart := false, narrowed := true }
def FnExactSparseListUptoSaid : Prop := fnExactSparseListUptoRow.holds Try.pinned (OpenSpec.upto fnExactSparseListSpec)

/-- 'laws.FnExactSparseRank', WHERE WHAT IT READS IS OF BULK AT MOST 1048576: true; the input reads as it did. -/
def fnExactSparseRankUptoRow : OpenClaim := { program := "ytanllfidbhjboaa", sum := "d3e458d5e15ea8d51cd265e2d62eb45bd62c4f23bb1e8aaaefd13c81bb49b633", func := "loop.example/g00688/laws.FnExactSparseRank", spec := "fnExactSparseRank", unfollowed := true, recurses := true, apart := false, narrowed := true }
def FnExactSparseRankUptoSaid : Prop := fnExactSparseRankUptoRow.holds Try.pinned (OpenSpec.upto fnExactSparseRankSpec)

end Rows
end Go.Proofs.Ytanllfidbhjboaa
