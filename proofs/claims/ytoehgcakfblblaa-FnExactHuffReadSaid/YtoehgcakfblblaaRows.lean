/-
  No cell of these rows narrows 'for every input' (looked for: loops, veiled, ifaces, maps, wideKeys, modest, calm, conditions, laid).
  DERIVED. THE GIVEN ROWS OF THIS SEAT. 11 by the template 'for every input the law returns true; each argument reads behind the call as it read before'; 0 by the template 'total and deterministic' (their statements: YtoehgcakfblblaaTotals.lean).
  GIVEN WITH THE SEED: the statements are not yours to turn. If you find one false, say at which input.
  Laid BY PROGRAM, IN A SANDBOX (cutbox-rows.mjs): the forced cells as the released guide's own fill.sh prints them over the translation 565cfd13cfd9a7d0… (all of the seat's roots in one cut). By AI agents, Wed Nov 11 2026. No macro, syntax, notation, axiom, sorry.
-/
import Derived.Test.YtoehgcakfblblaaChecked
import GoSem.Claim
import GoSem.ClaimJoined
import GoSem.ClaimMapViews
import Derived.JoinedTies
import Derived.KernelRfl
namespace Go.Proofs.Ytoehgcakfblblaa
/- THE CELL 'sum', in the pinned program and in every row, IS THE sha256 OF THE DUMP (.gsa) THAT YtoehgcakfblblaaProg.lean LOADS. Nothing in Lean hashes anything: it is a label: what it is worth is what the hold of that sum in a sandbox is worth. -/
noncomputable def Try.pinned : Pinned := { name := "ytoehgcakfblblaa", sum := "565cfd13cfd9a7d0e6dd97896d10dd795792dec57c594e26ef4fe4eaa8a79715", checked := Try.checked }
namespace Rows
def none {H : Type} : Left H := { results := [], args := [] }

/-- 'laws.FnWaveKth': WHATEVER THE INPUT: true; the input reads as it did. -/
def fnWaveKthSpec : ChangeSpec := { name := "fnWaveKth", fn := fun _ => fun
  | [d] => { results := [.lit (.bool true)], args := [d] }
  | _ => none }
def fnWaveKthRow : OpenClaim := { program := "ytoehgcakfblblaa", sum := "565cfd13cfd9a7d0e6dd97896d10dd795792dec57c594e26ef4fe4eaa8a79715", func := "loop.example/g00688/laws.FnWaveKth", spec := "fnWaveKth", plainKeys := false, apart := false }
def FnWaveKthSaid : Prop := fnWaveKthRow.holds Try.pinned (OpenSpec.ofChange fnWaveKthSpec)

/-- ITS FALSE NEIGHBOUR: 'it returns false'. Refute it at one input. -/
def fnWaveKthWrong : ChangeSpec := { name := "fnWaveKth", fn := fun _ => fun
  | [d] => { results := [.lit (.bool false)], args := [d] }
  | _ => none }
def FnWaveKthWrongFalsely : Prop := fnWaveKthRow.holds Try.pinned (OpenSpec.ofChange fnWaveKthWrong)

/-- 'laws.FnExactWaveOf': WHATEVER THE INPUT: true; the input reads as it did. -/
def fnExactWaveOfSpec : ChangeSpec := { name := "fnExactWaveOf", fn := fun _ => fun
  | [d] => { results := [.lit (.bool true)], args := [d] }
  | _ => none }
def fnExactWaveOfRow : OpenClaim := { program := "ytoehgcakfblblaa", sum := "565cfd13cfd9a7d0e6dd97896d10dd795792dec57c594e26ef4fe4eaa8a79715", func := "loop.example/g00688/laws.FnExactWaveOf", spec := "fnExactWaveOf", plainKeys := false, apart := false }
def FnExactWaveOfSaid : Prop := fnExactWaveOfRow.holds Try.pinned (OpenSpec.ofChange fnExactWaveOfSpec)

/-- ITS FALSE NEIGHBOUR: 'it returns false'. Refute it at one input. -/
def fnExactWaveOfWrong : ChangeSpec := { name := "fnExactWaveOf", fn := fun _ => fun
  | [d] => { results := [.lit (.bool false)], args := [d] }
  | _ => none }
def FnExactWaveOfWrongFalsely : Prop := fnExactWaveOfRow.holds Try.pinned (OpenSpec.ofChange fnExactWaveOfWrong)

/-- 'laws.FnHuffBack': WHATEVER THE INPUT: true; the input reads as it did. -/
def fnHuffBackSpec : ChangeSpec := { name := "fnHuffBack", fn := fun _ => fun
  | [d] => { results := [.lit (.bool true)], args := [d] }
  | _ => none }
def fnHuffBackRow : OpenClaim := { program := "ytoehgcakfblblaa", sum := "565cfd13cfd9a7d0e6dd97896d10dd795792dec57c594e26ef4fe4eaa8a79715", func := "loop.example/g00688/laws.FnHuffBack", spec := "fnHuffBack", unfollowed := true, recurses := true, plainKeys := false, apart := false }
def FnHuffBackSaid : Prop := fnHuffBackRow.holds Try.pinned (OpenSpec.ofChange fnHuffBackSpec)

/-- ITS FALSE NEIGHBOUR: 'it returns false'. Refute it at one input. -/
def fnHuffBackWrong : ChangeSpec := { name := "fnHuffBack", fn := fun _ => fun
  | [d] => { results := [.lit (.bool false)], args := [d] }
  | _ => none }
def FnHuffBackWrongFalsely : Prop := fnHuffBackRow.holds Try.pinned (OpenSpec.ofChange fnHuffBackWrong)

/-- 'laws.FnHuffBest': WHATEVER THE INPUT: true; the input reads as it did. -/
def fnHuffBestSpec : ChangeSpec := { name := "fnHuffBest", fn := fun _ => fun
  | [d] => { results := [.lit (.bool true)], args := [d] }
  | _ => none }
def fnHuffBestRow : OpenClaim := { program := "ytoehgcakfblblaa", sum := "565cfd13cfd9a7d0e6dd97896d10dd795792dec57c594e26ef4fe4eaa8a79715", func := "loop.example/g00688/laws.FnHuffBest", spec := "fnHuffBest", unfollowed := true, recurses := true, plainKeys := false, apart := false }
def FnHuffBestSaid : Prop := fnHuffBestRow.holds Try.pinned (OpenSpec.ofChange fnHuffBestSpec)

/-- ITS FALSE NEIGHBOUR: 'it returns false'. Refute it at one input. -/
def fnHuffBestWrong : ChangeSpec := { name := "fnHuffBest", fn := fun _ => fun
  | [d] => { results := [.lit (.bool false)], args := [d] }
  | _ => none }
def FnHuffBestWrongFalsely : Prop := fnHuffBestRow.holds Try.pinned (OpenSpec.ofChange fnHuffBestWrong)

/-- 'laws.FnPrefix': WHATEVER THE INPUT: true; the input reads as it did. -/
def fnPrefixSpec : ChangeSpec := { name := "fnPrefix", fn := fun _ => fun
  | [d] => { results := [.lit (.bool true)], args := [d] }
  | _ => none }
def fnPrefixRow : OpenClaim := { program := "ytoehgcakfblblaa", sum := "565cfd13cfd9a7d0e6dd97896d10dd795792dec57c594e26ef4fe4eaa8a79715", func := "loop.example/g00688/laws.FnPrefix", spec := "fnPrefix", unfollowed := true, recurses := true, plainKeys := false, apart := false }
def FnPrefixSaid : Prop := fnPrefixRow.holds Try.pinned (OpenSpec.ofChange fnPrefixSpec)

/-- ITS FALSE NEIGHBOUR: 'it returns false'. Refute it at one input. -/
def fnPrefixWrong : ChangeSpec := { name := "fnPrefix", fn := fun _ => fun
  | [d] => { results := [.lit (.bool false)], args := [d] }
  | _ => none }
def FnPrefixWrongFalsely : Prop := fnPrefixRow.holds Try.pinned (OpenSpec.ofChange fnPrefixWrong)

/-- 'laws.FnExactHuffLens': WHATEVER THE INPUT: true; the input reads as it did. -/
def fnExactHuffLensSpec : ChangeSpec := { name := "fnExactHuffLens", fn := fun _ => fun
  | [d] => { results := [.lit (.bool true)], args := [d] }
  | _ => none }
def fnExactHuffLensRow : OpenClaim := { program := "ytoehgcakfblblaa", sum := "565cfd13cfd9a7d0e6dd97896d10dd795792dec57c594e26ef4fe4eaa8a79715", func := "loop.example/g00688/laws.FnExactHuffLens", spec := "fnExactHuffLens", unfollowed := true, recurses := true, plainKeys := false, apart := false }
def FnExactHuffLensSaid : Prop := fnExactHuffLensRow.holds Try.pinned (OpenSpec.ofChange fnExactHuffLensSpec)

/-- ITS FALSE NEIGHBOUR: 'it returns false'. Refute it at one input. -/
def fnExactHuffLensWrong : ChangeSpec := { name := "fnExactHuffLens", fn := fun _ => fun
  | [d] => { results := [.lit (.bool false)], args := [d] }
  | _ => none }
def FnExactHuffLensWrongFalsely : Prop := fnExactHuffLensRow.holds Try.pinned (OpenSpec.ofChange fnExactHuffLensWrong)

/-- 'laws.FnExactHuffOk': WHATEVER THE INPUT: true; the input reads as it did. -/
def fnExactHuffOkSpec : ChangeSpec := { name := "fnExactHuffOk", fn := fun _ => fun
  | [d] => { results := [.lit (.bool true)], args := [d] }
  | _ => none }
def fnExactHuffOkRow : OpenClaim := { program := "ytoehgcakfblblaa", sum := "565cfd13cfd9a7d0e6dd97896d10dd795792dec57c594e26ef4fe4eaa8a79715", func := "loop.example/g00688/laws.FnExactHuffOk", spec := "fnExactHuffOk", plainKeys := false, apart := false }
def FnExactHuffOkSaid : Prop := fnExactHuffOkRow.holds Try.pinned (OpenSpec.ofChange fnExactHuffOkSpec)

/-- ITS FALSE NEIGHBOUR: 'it returns false'. Refute it at one input. -/
def fnExactHuffOkWrong : ChangeSpec := { name := "fnExactHuffOk", fn := fun _ => fun
  | [d] => { results := [.lit (.bool false)], args := [d] }
  | _ => none }
def FnExactHuffOkWrongFalsely : Prop := fnExactHuffOkRow.holds Try.pinned (OpenSpec.ofChange fnExactHuffOkWrong)

/-- 'laws.FnExactHuffCodes': WHATEVER THE INPUT: true; the input reads as it did. -/
def fnExactHuffCodesSpec : ChangeSpec := { name := "fnExactHuffCodes", fn := fun _ => fun
  | [d] => { results := [.lit (.bool true)], args := [d] }
  | _ => none }
def fnExactHuffCodesRow : OpenClaim := { program := "ytoehgcakfblblaa", sum := "565cfd13cfd9a7d0e6dd97896d10dd795792dec57c594e26ef4fe4eaa8a79715", func := "loop.example/g00688/laws.FnExactHuffCodes", spec := "fnExactHuffCodes", unfollowed := true, recurses := true, plainKeys := false, apart := false }
def FnExactHuffCodesSaid : Prop := fnExactHuffCodesRow.holds Try.pinned (OpenSpec.ofChange fnExactHuffCodesSpec)

/-- ITS FALSE NEIGHBOUR: 'it returns false'. Refute it at one input. -/
def fnExactHuffCodesWrong : ChangeSpec := { name := "fnExactHuffCodes", fn := fun _ => fun
  | [d] => { results := [.lit (.bool false)], args := [d] }
  | _ => none }
def FnExactHuffCodesWrongFalsely : Prop := fnExactHuffCodesRow.holds Try.pinned (OpenSpec.ofChange fnExactHuffCodesWrong)

/-- 'laws.FnExactHuffSize': WHATEVER THE INPUT: true; the input reads as it did. -/
def fnExactHuffSizeSpec : ChangeSpec := { name := "fnExactHuffSize", fn := fun _ => fun
  | [d1, d2] => { results := [.lit (.bool true)], args := [d1, d2] }
  | _ => none }
def fnExactHuffSizeRow : OpenClaim := { program := "ytoehgcakfblblaa", sum := "565cfd13cfd9a7d0e6dd97896d10dd795792dec57c594e26ef4fe4eaa8a79715", func := "loop.example/g00688/laws.FnExactHuffSize", spec := "fnExactHuffSize", plainKeys := false, apart := false }
def FnExactHuffSizeSaid : Prop := fnExactHuffSizeRow.holds Try.pinned (OpenSpec.ofChange fnExactHuffSizeSpec)

/-- ITS FALSE NEIGHBOUR: 'it returns false'. Refute it at one input. -/
def fnExactHuffSizeWrong : ChangeSpec := { name := "fnExactHuffSize", fn := fun _ => fun
  | [d1, d2] => { results := [.lit (.bool false)], args := [d1, d2] }
  | _ => none }
def FnExactHuffSizeWrongFalsely : Prop := fnExactHuffSizeRow.holds Try.pinned (OpenSpec.ofChange fnExactHuffSizeWrong)

/-- 'laws.FnExactHuffWrite': WHATEVER THE INPUT: true; the input reads as it did. -/
def fnExactHuffWriteSpec : ChangeSpec := { name := "fnExactHuffWrite", fn := fun _ => fun
  | [d1, d2] => { results := [.lit (.bool true)], args := [d1, d2] }
  | _ => none }
def fnExactHuffWriteRow : OpenClaim := { program := "ytoehgcakfblblaa", sum := "565cfd13cfd9a7d0e6dd97896d10dd795792dec57c594e26ef4fe4eaa8a79715", func := "loop.example/g00688/laws.FnExactHuffWrite", spec := "fnExactHuffWrite", unfollowed := true, recurses := true, plainKeys := false, apart := false }
def FnExactHuffWriteSaid : Prop := fnExactHuffWriteRow.holds Try.pinned (OpenSpec.ofChange fnExactHuffWriteSpec)

/-- ITS FALSE NEIGHBOUR: 'it returns false'. Refute it at one input. -/
def fnExactHuffWriteWrong : ChangeSpec := { name := "fnExactHuffWrite", fn := fun _ => fun
  | [d1, d2] => { results := [.lit (.bool false)], args := [d1, d2] }
  | _ => none }
def FnExactHuffWriteWrongFalsely : Prop := fnExactHuffWriteRow.holds Try.pinned (OpenSpec.ofChange fnExactHuffWriteWrong)

/-- 'laws.FnExactHuffRead': WHATEVER THE INPUT: true; the input reads as it did. -/
def fnExactHuffReadSpec : ChangeSpec := { name := "fnExactHuffRead", fn := fun _ => fun
  | [d1, d2, d3] => { results := [.lit (.bool true)], args := [d1, d2, d3] }
  | _ => none }
def fnExactHuffReadRow : OpenClaim := { program := "ytoehgcakfblblaa", sum := "565cfd13cfd9a7d0e6dd97896d10dd795792dec57c594e26ef4fe4eaa8a79715", func := "loop.example/g00688/laws.FnExactHuffRead", spec := "fnExactHuffRead", unfollowed := true, recurses := true, plainKeys := false, apart := false }
def FnExactHuffReadSaid : Prop := fnExactHuffReadRow.holds Try.pinned (OpenSpec.ofChange fnExactHuffReadSpec)

/-- ITS FALSE NEIGHBOUR: 'it returns false'. Refute it at one input. -/
def fnExactHuffReadWrong : ChangeSpec := { name := "fnExactHuffRead", fn := fun _ => fun
  | [d1, d2, d3] => { results := [.lit (.bool false)], args := [d1, d2, d3] }
  | _ => none }
def FnExactHuffReadWrongFalsely : Prop := fnExactHuffReadRow.holds Try.pinned (OpenSpec.ofChange fnExactHuffReadWrong)

/- THE SECOND FORM. 'bulk': how many values and letters a reading holds, each counted each time it is reached (what is shared counts as often as it is met; a slice's spare places count too). A statement '..UptoSaid' is the law's where the arguments, and the package variables that the reading takes, are together of bulk at most 1048576: NARROWER than '..Said'. Prove '..Said' where nothing that the law and all that it calls make is longer than what came in: it says more and counts as full. Else prove '..UptoSaid'. A law counts once. -/
mutual
def uptoBulk {H : Type} : DataW H → Nat
  | .lit (.string bytes) => bytes.length + 1
  | .lit _ => 1
  | .nil => 1
  | .ptr d => uptoBulk d + 1
  | .slice elems spare => uptoBulkAll elems + uptoBulkAll spare + 1
  | .agg parts => uptoBulkAll parts + 1
  | .iface _ d => uptoBulk d + 1
  | .map entries => uptoBulkEntries entries + 1
  | .held _ => 1
def uptoBulkAll {H : Type} : List (DataW H) → Nat
  | [] => 0
  | d :: r => uptoBulk d + uptoBulkAll r
def uptoBulkEntries {H : Type} : List (Lit × DataW H) → Nat
  | [] => 0
  | x :: r => uptoBulkEntry x + uptoBulkEntries r
def uptoBulkEntry {H : Type} : Lit × DataW H → Nat
  | (.string bytes, d) => bytes.length + uptoBulk d + 1
  | (_, d) => uptoBulk d + 1
 end
def uptoSmall : (H : Type) → List (DataW H) → Bool := fun _ ds => decide (uptoBulkAll ds ≤ 1048576)
def OpenSpec.upto (s : _root_.Go.ChangeSpec) : _root_.Go.OpenSpec := { _root_.Go.OpenSpec.ofChange s with cond := some uptoSmall }

/-- 'laws.FnWaveKth', WHERE WHAT IT READS IS OF BULK AT MOST 1048576: true; the input reads as it did. -/
def fnWaveKthUptoRow : OpenClaim := { program := "ytoehgcakfblblaa", sum := "565cfd13cfd9a7d0e6dd97896d10dd795792dec57c594e26ef4fe4eaa8a79715", func := "loop.example/g00688/laws.FnWaveKth", spec := "fnWaveKth", plainKeys := false, apart := false, narrowed := true }
def FnWaveKthUptoSaid : Prop := fnWaveKthUptoRow.holds Try.pinned (OpenSpec.upto fnWaveKthSpec)

/-- 'laws.FnExactWaveOf', WHERE WHAT IT READS IS OF BULK AT MOST 1048576: true; the input reads as it did. -/
def fnExactWaveOfUptoRow : OpenClaim := { program := "ytoehgcakfblblaa", sum := "565cfd13cfd9a7d0e6dd97896d10dd795792dec57c594e26ef4fe4eaa8a79715", func := "loop.example/g00688/laws.FnExactWaveOf", spec := "fnExactWaveOf", plainKeys := false, apart := false, narrowed := true }
def FnExactWaveOfUptoSaid : Prop := fnExactWaveOfUptoRow.holds Try.pinned (OpenSpec.upto fnExactWaveOfSpec)

/-- 'laws.FnHuffBack', WHERE WHAT IT READS IS OF BULK AT MOST 1048576: true; the input reads as it did. -/
def fnHuffBackUptoRow : OpenClaim := { program := "ytoehgcakfblblaa", sum := "565cfd13cfd9a7d0e6dd97896d10dd795792dec57c594e26ef4fe4eaa8a79715", func := "loop.example/g00688/laws.FnHuffBack", spec := "fnHuffBack", unfollowed := true, recurses := true, plainKeys := false, apart := false, narrowed := true }
def FnHuffBackUptoSaid : Prop := fnHuffBackUptoRow.holds Try.pinned (OpenSpec.upto fnHuffBackSpec)

/-- 'laws.FnHuffBest', WHERE WHAT IT READS IS OF BULK AT MOST 1048576: true; the input reads as it did. -/
def fnHuffBestUptoRow : OpenClaim := { program := "ytoehgcakfblblaa", sum := "565cfd13cfd9a7d0e6dd97896d10dd795792dec57c594e26ef4fe4eaa8a79715", func := "loop.example/g00688/laws.FnHuffBest", spec := "fnHuffBest", unfollowed := true, recurses := true, plainKeys := false, apart := false, narrowed := true }
def FnHuffBestUptoSaid : Prop := fnHuffBestUptoRow.holds Try.pinned (OpenSpec.upto fnHuffBestSpec)

/-- 'laws.FnPrefix', WHERE WHAT IT READS IS OF BULK AT MOST 1048576: true; the input reads as it did. -/
def fnPrefixUptoRow : OpenClaim := { program := "ytoehgcakfblblaa", sum := "565cfd13cfd9a7d0e6dd97896d10dd795792dec57c594e26ef4fe4eaa8a79715", func := "loop.example/g00688/laws.FnPrefix", spec := "fnPrefix", unfollowed := true, recurses := true, plainKeys := false, apart := false, narrowed := true }
def FnPrefixUptoSaid : Prop := fnPrefixUptoRow.holds Try.pinned (OpenSpec.upto fnPrefixSpec)

/-- 'laws.FnExactHuffLens', WHERE WHAT IT READS IS OF BULK AT MOST 1048576: true; the input reads as it did. -/
def fnExactHuffLensUptoRow : OpenClaim := { program := "ytoehgcakfblblaa", sum := "565cfd13cfd9a7d0e6dd97896d10dd795792dec57c594e26ef4fe4eaa8a79715", func := "loop.example/g00688/laws.FnExactHuffLens", spec := "fnExactHuffLens", unfollowed := true, recurses := true, plainKeys := false, apart := false, narrowed := true }
def FnExactHuffLensUptoSaid : Prop := fnExactHuffLensUptoRow.holds Try.pinned (OpenSpec.upto fnExactHuffLensSpec)

/-- 'laws.FnExactHuffOk', WHERE WHAT IT READS IS OF BULK AT MOST 1048576: true; the input reads as it did. -/
def fnExactHuffOkUptoRow : OpenClaim := { program := "ytoehgcakfblblaa", sum := "565cfd13cfd9a7d0e6dd97896d10dd795792dec57c594e26ef4fe4eaa8a79715", func := "loop.example/g00688/laws.FnExactHuffOk", spec := "fnExactHuffOk", plainKeys := false, apart := false, narrowed := true }
def FnExactHuffOkUptoSaid : Prop := fnExactHuffOkUptoRow.holds Try.pinned (OpenSpec.upto fnExactHuffOkSpec)

/-- 'laws.FnExactHuffCodes', WHERE WHAT IT READS IS OF BULK AT MOST 1048576: true; the input reads as it did. -/
def fnExactHuffCodesUptoRow : OpenClaim := { program := "ytoehgcakfblblaa", sum := "565cfd13cfd9a7d0e6dd97896d10dd795792dec57c594e26ef4fe4eaa8a79715", func := "loop.example/g00688/laws.FnExactHuffCodes", spec := "fnExactHuffCodes", unfollowed := true, recurses := true, plainKeys := false, apart := false, narrowed := true }
def FnExactHuffCodesUptoSaid : Prop := fnExactHuffCodesUptoRow.holds Try.pinned (OpenSpec.upto fnExactHuffCodesSpec)

/-- 'laws.FnExactHuffSize', WHERE WHAT IT READS IS OF BULK AT MOST 1048576: true; the input reads as it did. -/
def fnExactHuffSizeUptoRow : OpenClaim := { program := "ytoehgcakfblblaa", sum := "565cfd13cfd9a7d0e6dd97896d10dd795792dec57c594e26ef4fe4eaa8a79715", func := "loop.example/g00688/laws.FnExactHuffSize", spec := "fnExactHuffSize", plainKeys := false, apart := false, narrowed := true }
def FnExactHuffSizeUptoSaid : Prop := fnExactHuffSizeUptoRow.holds Try.pinned (OpenSpec.upto fnExactHuffSizeSpec)

/-- 'laws.FnExactHuffWrite', WHERE WHAT IT READS IS OF BULK AT MOST 1048576: true; the input reads as it did. -/
def fnExactHuffWriteUptoRow : OpenClaim := { program := "ytoehgcakfblblaa", sum := "565cfd13cfd9a7d0e6dd97896d10dd795792dec57c594e26ef4fe4eaa8a79715", func := "loop.example/g00688/laws.FnExactHuffWrite", spec := "fnExactHuffWrite", unfollowed := true, recurses := true, plainKeys := false, apart := false, narrowed := true }
def FnExactHuffWriteUptoSaid : Prop := fnExactHuffWriteUptoRow.holds Try.pinned (OpenSpec.upto fnExactHuffWriteSpec)

/-- 'laws.FnExactHuffRead', WHERE WHAT IT READS IS OF BULK AT MOST 1048576: true; the input reads as it did. -/
def fnExactHuffReadUptoRow : OpenClaim := { program := "ytoehgcakfblblaa", sum := "565cfd13cfd9a7d0e6dd97896d10dd795792dec57c594e26ef4fe4eaa8a79715", func := "loop.example/g00688/laws.FnExactHuffRead", spec := "fnExactHuffRead", unfollowed := true, recurses := true, plainKeys := false, apart := false, narrowed := true }
def FnExactHuffReadUptoSaid : Prop := fnExactHuffReadUptoRow.holds Try.pinned (OpenSpec.upto fnExactHuffReadSpec)

end Rows
end Go.Proofs.Ytoehgcakfblblaa
