/-
  No cell of these rows narrows 'for every input' (looked for: loops, veiled, ifaces, maps, wideKeys, modest, calm, conditions, laid).
  DERIVED. THE GIVEN ROWS OF THIS SEAT. 10 by the template 'for every input the law returns true; each argument reads behind the call as it read before'; 0 by the template 'total and deterministic' (their statements: YtkjelakdejbolaaTotals.lean).
  GIVEN WITH THE SEED: the statements are not yours to turn. If you find one false, say at which input.
  Laid BY PROGRAM, IN A SANDBOX (cutbox-rows.mjs): the forced cells as the released guide's own fill.sh prints them over the translation f18d6a13dd75407a… (all of the seat's roots in one cut). By AI agents, Wed Nov 11 2026. No macro, syntax, notation, axiom, sorry.
-/
import Derived.Test.YtkjelakdejbolaaChecked
import GoSem.Claim
import GoSem.ClaimJoined
import GoSem.ClaimMapViews
import Derived.JoinedTies
import Derived.KernelRfl
namespace Go.Proofs.Ytkjelakdejbolaa
/- THE CELL 'sum', in the pinned program and in every row, IS THE sha256 OF THE DUMP (.gsa) THAT YtkjelakdejbolaaProg.lean LOADS. Nothing in Lean hashes anything: it is a label: what it is worth is what the hold of that sum in a sandbox is worth. -/
noncomputable def Try.pinned : Pinned := { name := "ytkjelakdejbolaa", sum := "f18d6a13dd75407aa798f571442680b38324e5021d5fbd926c867ad429c2cd3f", checked := Try.checked }
namespace Rows
def none {H : Type} : Left H := { results := [], args := [] }

/-- 'laws.FnBwtBack': WHATEVER THE INPUT: true; the input reads as it did. -/
def fnBwtBackSpec : ChangeSpec := { name := "fnBwtBack", fn := fun _ => fun
  | [d] => { results := [.lit (.bool true)], args := [d] }
  | _ => none }
def fnBwtBackRow : OpenClaim := { program := "ytkjelakdejbolaa", sum := "f18d6a13dd75407aa798f571442680b38324e5021d5fbd926c867ad429c2cd3f", func := "loop.example/g00688/laws.FnBwtBack", spec := "fnBwtBack", unfollowed := true, recurses := true, apart := false }
def FnBwtBackSaid : Prop := fnBwtBackRow.holds Try.pinned (OpenSpec.ofChange fnBwtBackSpec)

/-- ITS FALSE NEIGHBOUR: 'it returns false'. Refute it at one input. -/
def fnBwtBackWrong : ChangeSpec := { name := "fnBwtBack", fn := fun _ => fun
  | [d] => { results := [.lit (.bool false)], args := [d] }
  | _ => none }
def FnBwtBackWrongFalsely : Prop := fnBwtBackRow.holds Try.pinned (OpenSpec.ofChange fnBwtBackWrong)

/-- 'laws.FnLfSteps': WHATEVER THE INPUT: true; the input reads as it did. -/
def fnLfStepsSpec : ChangeSpec := { name := "fnLfSteps", fn := fun _ => fun
  | [d] => { results := [.lit (.bool true)], args := [d] }
  | _ => none }
def fnLfStepsRow : OpenClaim := { program := "ytkjelakdejbolaa", sum := "f18d6a13dd75407aa798f571442680b38324e5021d5fbd926c867ad429c2cd3f", func := "loop.example/g00688/laws.FnLfSteps", spec := "fnLfSteps", unfollowed := true, recurses := true, apart := false }
def FnLfStepsSaid : Prop := fnLfStepsRow.holds Try.pinned (OpenSpec.ofChange fnLfStepsSpec)

/-- ITS FALSE NEIGHBOUR: 'it returns false'. Refute it at one input. -/
def fnLfStepsWrong : ChangeSpec := { name := "fnLfSteps", fn := fun _ => fun
  | [d] => { results := [.lit (.bool false)], args := [d] }
  | _ => none }
def FnLfStepsWrongFalsely : Prop := fnLfStepsRow.holds Try.pinned (OpenSpec.ofChange fnLfStepsWrong)

/-- 'laws.FnLfOrder': WHATEVER THE INPUT: true; the input reads as it did. -/
def fnLfOrderSpec : ChangeSpec := { name := "fnLfOrder", fn := fun _ => fun
  | [d] => { results := [.lit (.bool true)], args := [d] }
  | _ => none }
def fnLfOrderRow : OpenClaim := { program := "ytkjelakdejbolaa", sum := "f18d6a13dd75407aa798f571442680b38324e5021d5fbd926c867ad429c2cd3f", func := "loop.example/g00688/laws.FnLfOrder", spec := "fnLfOrder", apart := false }
def FnLfOrderSaid : Prop := fnLfOrderRow.holds Try.pinned (OpenSpec.ofChange fnLfOrderSpec)

/-- ITS FALSE NEIGHBOUR: 'it returns false'. Refute it at one input. -/
def fnLfOrderWrong : ChangeSpec := { name := "fnLfOrder", fn := fun _ => fun
  | [d] => { results := [.lit (.bool false)], args := [d] }
  | _ => none }
def FnLfOrderWrongFalsely : Prop := fnLfOrderRow.holds Try.pinned (OpenSpec.ofChange fnLfOrderWrong)

/-- 'laws.FnExactSymsOk': WHATEVER THE INPUT: true; the input reads as it did. -/
def fnExactSymsOkSpec : ChangeSpec := { name := "fnExactSymsOk", fn := fun _ => fun
  | [d] => { results := [.lit (.bool true)], args := [d] }
  | _ => none }
def fnExactSymsOkRow : OpenClaim := { program := "ytkjelakdejbolaa", sum := "f18d6a13dd75407aa798f571442680b38324e5021d5fbd926c867ad429c2cd3f", func := "loop.example/g00688/laws.FnExactSymsOk", spec := "fnExactSymsOk", apart := false }
def FnExactSymsOkSaid : Prop := fnExactSymsOkRow.holds Try.pinned (OpenSpec.ofChange fnExactSymsOkSpec)

/-- ITS FALSE NEIGHBOUR: 'it returns false'. Refute it at one input. -/
def fnExactSymsOkWrong : ChangeSpec := { name := "fnExactSymsOk", fn := fun _ => fun
  | [d] => { results := [.lit (.bool false)], args := [d] }
  | _ => none }
def FnExactSymsOkWrongFalsely : Prop := fnExactSymsOkRow.holds Try.pinned (OpenSpec.ofChange fnExactSymsOkWrong)

/-- 'laws.FnExactBwtOf': WHATEVER THE INPUT: true; the input reads as it did. -/
def fnExactBwtOfSpec : ChangeSpec := { name := "fnExactBwtOf", fn := fun _ => fun
  | [d] => { results := [.lit (.bool true)], args := [d] }
  | _ => none }
def fnExactBwtOfRow : OpenClaim := { program := "ytkjelakdejbolaa", sum := "f18d6a13dd75407aa798f571442680b38324e5021d5fbd926c867ad429c2cd3f", func := "loop.example/g00688/laws.FnExactBwtOf", spec := "fnExactBwtOf", unfollowed := true, recurses := true, apart := false }
def FnExactBwtOfSaid : Prop := fnExactBwtOfRow.holds Try.pinned (OpenSpec.ofChange fnExactBwtOfSpec)

/-- ITS FALSE NEIGHBOUR: 'it returns false'. Refute it at one input. -/
def fnExactBwtOfWrong : ChangeSpec := { name := "fnExactBwtOf", fn := fun _ => fun
  | [d] => { results := [.lit (.bool false)], args := [d] }
  | _ => none }
def FnExactBwtOfWrongFalsely : Prop := fnExactBwtOfRow.holds Try.pinned (OpenSpec.ofChange fnExactBwtOfWrong)

/-- 'laws.FnExactCounts': WHATEVER THE INPUT: true; the input reads as it did. -/
def fnExactCountsSpec : ChangeSpec := { name := "fnExactCounts", fn := fun _ => fun
  | [d] => { results := [.lit (.bool true)], args := [d] }
  | _ => none }
def fnExactCountsRow : OpenClaim := { program := "ytkjelakdejbolaa", sum := "f18d6a13dd75407aa798f571442680b38324e5021d5fbd926c867ad429c2cd3f", func := "loop.example/g00688/laws.FnExactCounts", spec := "fnExactCounts", apart := false }
def FnExactCountsSaid : Prop := fnExactCountsRow.holds Try.pinned (OpenSpec.ofChange fnExactCountsSpec)

/-- ITS FALSE NEIGHBOUR: 'it returns false'. Refute it at one input. -/
def fnExactCountsWrong : ChangeSpec := { name := "fnExactCounts", fn := fun _ => fun
  | [d] => { results := [.lit (.bool false)], args := [d] }
  | _ => none }
def FnExactCountsWrongFalsely : Prop := fnExactCountsRow.holds Try.pinned (OpenSpec.ofChange fnExactCountsWrong)

/-- 'laws.FnExactLfOf': WHATEVER THE INPUT: true; the input reads as it did. -/
def fnExactLfOfSpec : ChangeSpec := { name := "fnExactLfOf", fn := fun _ => fun
  | [d] => { results := [.lit (.bool true)], args := [d] }
  | _ => none }
def fnExactLfOfRow : OpenClaim := { program := "ytkjelakdejbolaa", sum := "f18d6a13dd75407aa798f571442680b38324e5021d5fbd926c867ad429c2cd3f", func := "loop.example/g00688/laws.FnExactLfOf", spec := "fnExactLfOf", apart := false }
def FnExactLfOfSaid : Prop := fnExactLfOfRow.holds Try.pinned (OpenSpec.ofChange fnExactLfOfSpec)

/-- ITS FALSE NEIGHBOUR: 'it returns false'. Refute it at one input. -/
def fnExactLfOfWrong : ChangeSpec := { name := "fnExactLfOf", fn := fun _ => fun
  | [d] => { results := [.lit (.bool false)], args := [d] }
  | _ => none }
def FnExactLfOfWrongFalsely : Prop := fnExactLfOfRow.holds Try.pinned (OpenSpec.ofChange fnExactLfOfWrong)

/-- 'laws.FnExactBwtText': WHATEVER THE INPUT: true; the input reads as it did. -/
def fnExactBwtTextSpec : ChangeSpec := { name := "fnExactBwtText", fn := fun _ => fun
  | [d] => { results := [.lit (.bool true)], args := [d] }
  | _ => none }
def fnExactBwtTextRow : OpenClaim := { program := "ytkjelakdejbolaa", sum := "f18d6a13dd75407aa798f571442680b38324e5021d5fbd926c867ad429c2cd3f", func := "loop.example/g00688/laws.FnExactBwtText", spec := "fnExactBwtText", apart := false }
def FnExactBwtTextSaid : Prop := fnExactBwtTextRow.holds Try.pinned (OpenSpec.ofChange fnExactBwtTextSpec)

/-- ITS FALSE NEIGHBOUR: 'it returns false'. Refute it at one input. -/
def fnExactBwtTextWrong : ChangeSpec := { name := "fnExactBwtText", fn := fun _ => fun
  | [d] => { results := [.lit (.bool false)], args := [d] }
  | _ => none }
def FnExactBwtTextWrongFalsely : Prop := fnExactBwtTextRow.holds Try.pinned (OpenSpec.ofChange fnExactBwtTextWrong)

/-- 'laws.FnExactRuns': WHATEVER THE INPUT: true; the input reads as it did. -/
def fnExactRunsSpec : ChangeSpec := { name := "fnExactRuns", fn := fun _ => fun
  | [d] => { results := [.lit (.bool true)], args := [d] }
  | _ => none }
def fnExactRunsRow : OpenClaim := { program := "ytkjelakdejbolaa", sum := "f18d6a13dd75407aa798f571442680b38324e5021d5fbd926c867ad429c2cd3f", func := "loop.example/g00688/laws.FnExactRuns", spec := "fnExactRuns", apart := false }
def FnExactRunsSaid : Prop := fnExactRunsRow.holds Try.pinned (OpenSpec.ofChange fnExactRunsSpec)

/-- ITS FALSE NEIGHBOUR: 'it returns false'. Refute it at one input. -/
def fnExactRunsWrong : ChangeSpec := { name := "fnExactRuns", fn := fun _ => fun
  | [d] => { results := [.lit (.bool false)], args := [d] }
  | _ => none }
def FnExactRunsWrongFalsely : Prop := fnExactRunsRow.holds Try.pinned (OpenSpec.ofChange fnExactRunsWrong)

/-- 'laws.FnExactStepsBack': WHATEVER THE INPUT: true; the input reads as it did. -/
def fnExactStepsBackSpec : ChangeSpec := { name := "fnExactStepsBack", fn := fun _ => fun
  | [d1, d2, d3] => { results := [.lit (.bool true)], args := [d1, d2, d3] }
  | _ => none }
def fnExactStepsBackRow : OpenClaim := { program := "ytkjelakdejbolaa", sum := "f18d6a13dd75407aa798f571442680b38324e5021d5fbd926c867ad429c2cd3f", func := "loop.example/g00688/laws.FnExactStepsBack", spec := "fnExactStepsBack", apart := false }
def FnExactStepsBackSaid : Prop := fnExactStepsBackRow.holds Try.pinned (OpenSpec.ofChange fnExactStepsBackSpec)

/-- ITS FALSE NEIGHBOUR: 'it returns false'. Refute it at one input. -/
def fnExactStepsBackWrong : ChangeSpec := { name := "fnExactStepsBack", fn := fun _ => fun
  | [d1, d2, d3] => { results := [.lit (.bool false)], args := [d1, d2, d3] }
  | _ => none }
def FnExactStepsBackWrongFalsely : Prop := fnExactStepsBackRow.holds Try.pinned (OpenSpec.ofChange fnExactStepsBackWrong)

/- THE SECOND FORM. 'bulk': how many values and letters a reading holds, each counted each time it is reached (what is shared counts as often as it is met; a slice's spare places count too). A statement '..UptoSaid' is the law's where the arguments, and the package variables that the reading takes, are together of bulk at most 1048576: NARROWER than '..Said'. Prove '..Said' where nothing that the law and all that it calls make is longer than what came in: it says more and counts as full. Else prove '..UptoSaid'. A law counts once. -/
mutual
def uptoBulk {H : Type} : DataW H → Nat
  | .lit (.string bytes) => bytes.length + 1
  | .lit _ => 1
  | .nil => 1
  | .ptr d => uptoBulk d + 1
  | .slice elems spare => uptoBulkAll elems + uptoBulkAll spare + 1
  | .agg parts => uptoBulkAll parts + 1
  | .iface _ d => uptoBulk d + 1
  | .map entries => uptoBulkEntries entries + 1
  | .held _ => 1
def uptoBulkAll {H : Type} : List (DataW H) → Nat
  | [] => 0
  | d :: r => uptoBulk d + uptoBulkAll r
def uptoBulkEntries {H : Type} : List (Lit × DataW H) → Nat
  | [] => 0
  | x :: r => uptoBulkEntry x + uptoBulkEntries r
def uptoBulkEntry {H : Type} : Lit × DataW H → Nat
  | (.string bytes, d) => bytes.length + uptoBulk d + 1
  | (_, d) => uptoBulk d + 1
 end
def uptoSmall : (H : Type) → List (DataW H) → Bool := fun _ ds => decide (uptoBulkAll ds ≤ 1048576)
def OpenSpec.upto (s : _root_.Go.ChangeSpec) : _root_.Go.OpenSpec := { _root_.Go.OpenSpec.ofChange s with cond := some uptoSmall }

/-- 'laws.FnBwtBack', WHERE WHAT IT READS IS OF BULK AT MOST 1048576: true; the input reads as it did. -/
def fnBwtBackUptoRow : OpenClaim := { program := "ytkjelakdejbolaa", sum := "f18d6a13dd75407aa798f571442680b38324e5021d5fbd926c867ad429c2cd3f", func := "loop.example/g00688/laws.FnBwtBack", spec := "fnBwtBack", unfollowed := true, recurses := true, apart := false, narrowed := true }
def FnBwtBackUptoSaid : Prop := fnBwtBackUptoRow.holds Try.pinned (OpenSpec.upto fnBwtBackSpec)

/-- 'laws.FnLfSteps', WHERE WHAT IT READS IS OF BULK AT MOST 1048576: true; the input reads as it did. -/
def fnLfStepsUptoRow : OpenClaim := { program := "ytkjelakdejbolaa", sum := "f18d6a13dd75407aa798f571442680b38324e5021d5fbd926c867ad429c2cd3f", func := "loop.example/g00688/laws.FnLfSteps", spec := "fnLfSteps", unfollowed := true, recurses := true, apart := false, narrowed := true }
def FnLfStepsUptoSaid : Prop := fnLfStepsUptoRow.holds Try.pinned (OpenSpec.upto fnLfStepsSpec)

/-- 'laws.FnLfOrder', WHERE WHAT IT READS IS OF BULK AT MOST 1048576: true; the input reads as it did. -/
def fnLfOrderUptoRow : OpenClaim := { program := "ytkjelakdejbolaa", sum := "f18d6a13dd75407aa798f571442680b38324e5021d5fbd926c867ad429c2cd3f", func := "loop.example/g00688/laws.FnLfOrder", spec := "fnLfOrder", apart := false, narrowed := true }
def FnLfOrderUptoSaid : Prop := fnLfOrderUptoRow.holds Try.pinned (OpenSpec.upto fnLfOrderSpec)

/-- 'laws.FnExactSymsOk', WHERE WHAT IT READS IS OF BULK AT MOST 1048576: true; the input reads as it did. -/
def fnExactSymsOkUptoRow : OpenClaim := { program := "ytkjelakdejbolaa", sum := "f18d6a13dd75407aa798f571442680b38324e5021d5fbd926c867ad429c2cd3f", func := "loop.example/g00688/laws.FnExactSymsOk", spec := "fnExactSymsOk", apart := false, narrowed := true }
def FnExactSymsOkUptoSaid : Prop := fnExactSymsOkUptoRow.holds Try.pinned (OpenSpec.upto fnExactSymsOkSpec)

/-- 'laws.FnExactBwtOf', WHERE WHAT IT READS IS OF BULK AT MOST 1048576: true; the input reads as it did. -/
def fnExactBwtOfUptoRow : OpenClaim := { program := "ytkjelakdejbolaa", sum := "f18d6a13dd75407aa798f571442680b38324e5021d5fbd926c867ad429c2cd3f", func := "loop.example/g00688/laws.FnExactBwtOf", spec := "fnExactBwtOf", unfollowed := true, recurses := true, apart := false, narrowed := true }
def FnExactBwtOfUptoSaid : Prop := fnExactBwtOfUptoRow.holds Try.pinned (OpenSpec.upto fnExactBwtOfSpec)

/-- 'laws.FnExactCounts', WHERE WHAT IT READS IS OF BULK AT MOST 1048576: true; the input reads as it did. -/
def fnExactCountsUptoRow : OpenClaim := { program := "ytkjelakdejbolaa", sum := "f18d6a13dd75407aa798f571442680b38324e5021d5fbd926c867ad429c2cd3f", func := "loop.example/g00688/laws.FnExactCounts", spec := "fnExactCounts", apart := false, narrowed := true }
def FnExactCountsUptoSaid : Prop := fnExactCountsUptoRow.holds Try.pinned (OpenSpec.upto fnExactCountsSpec)

/-- 'laws.FnExactLfOf', WHERE WHAT IT READS IS OF BULK AT MOST 1048576: true; the input reads as it did. -/
def fnExactLfOfUptoRow : OpenClaim := { program := "ytkjelakdejbolaa", sum := "f18d6a13dd75407aa798f571442680b38324e5021d5fbd926c867ad429c2cd3f", func := "loop.example/g00688/laws.FnExactLfOf", spec := "fnExactLfOf", apart := false, narrowed := true }
def FnExactLfOfUptoSaid : Prop := fnExactLfOfUptoRow.holds Try.pinned (OpenSpec.upto fnExactLfOfSpec)

/-- 'laws.FnExactBwtText', WHERE WHAT IT READS IS OF BULK AT MOST 1048576: true; the input reads as it did. -/
def fnExactBwtTextUptoRow : OpenClaim := { program := "ytkjelakdejbolaa", sum := "f18d6a13dd75407aa798f571442680b38324e5021d5fbd926c867ad429c2cd3f", func := "loop.example/g00688/laws.FnExactBwtText", spec := "fnExactBwtText", apart := false, narrowed := true }
def FnExactBwtTextUptoSaid : Prop := fnExactBwtTextUptoRow.holds Try.pinned (OpenSpec.upto fnExactBwtTextSpec)

/-- 'laws.FnExactRuns', WHERE WHAT IT READS IS OF BULK AT MOST 1048576: true; the input reads as it did. -/
def fnExactRunsUptoRow : OpenClaim := { program := "ytkjelakdejbolaa", sum := "f18d6a13dd75407aa798f571442680b38324e5021d5fbd926c867ad429c2cd3f", func := "loop.example/g00688/laws.FnExactRuns", spec := "fnExactRuns", apart := false, narrowed := true }
def FnExactRunsUptoSaid : Prop := fnExactRunsUptoRow.holds Try.pinned (OpenSpec.upto fnExactRunsSpec)

/-- 'laws.FnExactStepsBack', WHERE WHAT IT READS IS OF BULK AT MOST 1048576: true; the input reads as it did. -/
def fnExactStepsBackUptoRow : OpenClaim := { program := "ytkjelakdejbolaa", sum := "f18d6a13dd75407aa798f571442680b38324e5021d5fbd926c867ad429c2cd3f", func := "loop.example/g00688/laws.FnExactStepsBack", spec := "fnExactStepsBack", apart := false, narrowed := true }
def FnExactStepsBackUptoSaid : Prop := fnExactStepsBackUptoRow.holds Try.pinned (OpenSpec.upto fnExactStepsBackSpec)

end Rows
end Go.Proofs.Ytkjelakdejbolaa
