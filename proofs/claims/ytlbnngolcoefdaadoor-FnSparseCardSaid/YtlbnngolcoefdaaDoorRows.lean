/-
  NARROWER THAN 'FOR EVERY INPUT', by the rows' own cells (each row's printed sentence says how): FnSparse: laid · FnFramesBack: ifaces, laid · FnFrameTold: ifaces, laid · FnExactSparseAt: laid · FnExactSparseHas: laid · FnExactFrameRead: ifaces, laid · FnExactFramesRead: ifaces, laid.
  DERIVED. THE GIVEN ROWS OF THIS SEAT. 7 by the template 'for every input the law returns true; each argument reads behind the call as it read before'; 0 by the template 'total and deterministic' (their statements: YtlbnngolcoefdaaDoorTotals.lean).
  GIVEN WITH THE SEED: the statements are not yours to turn. If you find one false, say at which input.
  Laid BY PROGRAM, IN A SANDBOX (cutbox-rows.mjs): the forced cells as the released guide's own fill.sh prints them over the translation df317366f4eddfdc… (all of the seat's roots in one cut). By AI agents, Wed Nov 11 2026. No macro, syntax, notation, axiom, sorry.
-/
import Derived.Test.YtlbnngolcoefdaaDoorChecked
import GoSem.Claim
import GoSem.ClaimJoined
import GoSem.ClaimMapViews
import Derived.JoinedTies
import Derived.KernelRfl
namespace Go.Proofs.YtlbnngolcoefdaaDoor
/- THE CELL 'sum', in the pinned program and in every row, IS THE sha256 OF THE DUMP (.gsa) THAT YtlbnngolcoefdaaDoorProg.lean LOADS. Nothing in Lean hashes anything: it is a label: what it is worth is what the hold of that sum in a sandbox is worth. -/
noncomputable def Tryd.pinned : Pinned := { name := "ytlbnngolcoefdaadoor", sum := "df317366f4eddfdccad3e2b97387ee57a3cfe14e7166f49aaeac38f2b6714a2e", checked := Tryd.checked }
namespace Rows
def none {H : Type} : Left H := { results := [], args := [] }

/- WHAT THE LISTED PACKAGE-LEVEL VARIABLES READ AS WHEN THE CALL BEGINS. Each datum BY PROGRAM (the guide's laid-datum.mjs) off the statement by which the dump's own 'gosem.cut.vars' lays the variable. In a bare row this is a premise. The card (YtlbnngolcoefdaaDoorCards.lean) ties it to the program's text. -/
def laid_math_bits_deBruijn64tab {H : Type} : DataW H := .agg [.lit (.int .u8 0), .lit (.int .u8 1), .lit (.int .u8 56), .lit (.int .u8 2), .lit (.int .u8 57), .lit (.int .u8 49), .lit (.int .u8 28), .lit (.int .u8 3), .lit (.int .u8 61), .lit (.int .u8 58), .lit (.int .u8 42), .lit (.int .u8 50), .lit (.int .u8 38), .lit (.int .u8 29), .lit (.int .u8 17), .lit (.int .u8 4), .lit (.int .u8 62), .lit (.int .u8 47), .lit (.int .u8 59), .lit (.int .u8 36), .lit (.int .u8 45), .lit (.int .u8 43), .lit (.int .u8 51), .lit (.int .u8 22), .lit (.int .u8 53), .lit (.int .u8 39), .lit (.int .u8 33), .lit (.int .u8 30), .lit (.int .u8 24), .lit (.int .u8 18), .lit (.int .u8 12), .lit (.int .u8 5), .lit (.int .u8 63), .lit (.int .u8 55), .lit (.int .u8 48), .lit (.int .u8 27), .lit (.int .u8 60), .lit (.int .u8 41), .lit (.int .u8 37), .lit (.int .u8 16), .lit (.int .u8 46), .lit (.int .u8 35), .lit (.int .u8 44), .lit (.int .u8 21), .lit (.int .u8 52), .lit (.int .u8 32), .lit (.int .u8 23), .lit (.int .u8 11), .lit (.int .u8 54), .lit (.int .u8 26), .lit (.int .u8 40), .lit (.int .u8 15), .lit (.int .u8 34), .lit (.int .u8 20), .lit (.int .u8 31), .lit (.int .u8 10), .lit (.int .u8 25), .lit (.int .u8 14), .lit (.int .u8 19), .lit (.int .u8 9), .lit (.int .u8 13), .lit (.int .u8 8), .lit (.int .u8 7), .lit (.int .u8 6)]
def laid_loop_example_g00688_impl_errNoFrame {H : Type} : DataW H := .iface "*errors.errorString" (.ptr (.agg [.lit (.string [110, 111, 32, 102, 114, 97, 109, 101])]))

/-- 'laws.FnSparse': WHATEVER THE INPUT: true; the input reads as it did. -/
def fnSparseSpec : ChangeSpec := { name := "fnSparse", fn := fun _ => fun
  | [d] => { results := [.lit (.bool true)], args := [d] }
  | _ => none }
def fnSparseRow : OpenClaim := { program := "ytlbnngolcoefdaadoor", sum := "df317366f4eddfdccad3e2b97387ee57a3cfe14e7166f49aaeac38f2b6714a2e", func := "loop.example/g00688/laws.FnSparse", spec := "fnSparse", unfollowed := true, recurses := true, named := ["math/bits.deBruijn64tab"], apart := false, laid := [("math/bits.deBruijn64tab", laid_math_bits_deBruijn64tab)] }
def FnSparseSaid : Prop := fnSparseRow.holds Tryd.pinned (OpenSpec.ofChange fnSparseSpec)

/-- ITS FALSE NEIGHBOUR: 'it returns false'. Refute it at one input. -/
def fnSparseWrong : ChangeSpec := { name := "fnSparse", fn := fun _ => fun
  | [d] => { results := [.lit (.bool false)], args := [d] }
  | _ => none }
def FnSparseWrongFalsely : Prop := fnSparseRow.holds Tryd.pinned (OpenSpec.ofChange fnSparseWrong)

/-- 'laws.FnFramesBack': WHATEVER THE INPUT: true; the input reads as it did. -/
def fnFramesBackSpec : ChangeSpec := { name := "fnFramesBack", vars := ["loop.example/g00688/impl.errNoFrame"], fn := fun _ => fun
  | [d, g1] => { results := [.lit (.bool true)], args := [d], vars := [g1] }
  | _ => none }
def fnFramesBackRow : OpenClaim := { program := "ytlbnngolcoefdaadoor", sum := "df317366f4eddfdccad3e2b97387ee57a3cfe14e7166f49aaeac38f2b6714a2e", func := "loop.example/g00688/laws.FnFramesBack", spec := "fnFramesBack", inPlace := ["internal/reflectlite.TypeOf"], unfollowed := true, recurses := true, named := ["loop.example/g00688/impl.errNoFrame"], ifaces := true, apart := false, laid := [("loop.example/g00688/impl.errNoFrame", laid_loop_example_g00688_impl_errNoFrame)] }
def FnFramesBackSaid : Prop := fnFramesBackRow.holds Tryd.pinned (OpenSpec.ofChange fnFramesBackSpec)

/-- ITS FALSE NEIGHBOUR: 'it returns false'. Refute it at one input. -/
def fnFramesBackWrong : ChangeSpec := { name := "fnFramesBack", vars := ["loop.example/g00688/impl.errNoFrame"], fn := fun _ => fun
  | [d, g1] => { results := [.lit (.bool false)], args := [d], vars := [g1] }
  | _ => none }
def FnFramesBackWrongFalsely : Prop := fnFramesBackRow.holds Tryd.pinned (OpenSpec.ofChange fnFramesBackWrong)

/-- 'laws.FnFrameTold': WHATEVER THE INPUT: true; the input reads as it did. -/
def fnFrameToldSpec : ChangeSpec := { name := "fnFrameTold", vars := ["loop.example/g00688/impl.errNoFrame"], fn := fun _ => fun
  | [d, g1] => { results := [.lit (.bool true)], args := [d], vars := [g1] }
  | _ => none }
def fnFrameToldRow : OpenClaim := { program := "ytlbnngolcoefdaadoor", sum := "df317366f4eddfdccad3e2b97387ee57a3cfe14e7166f49aaeac38f2b6714a2e", func := "loop.example/g00688/laws.FnFrameTold", spec := "fnFrameTold", inPlace := ["internal/reflectlite.TypeOf"], unfollowed := true, recurses := true, named := ["loop.example/g00688/impl.errNoFrame"], ifaces := true, apart := false, laid := [("loop.example/g00688/impl.errNoFrame", laid_loop_example_g00688_impl_errNoFrame)] }
def FnFrameToldSaid : Prop := fnFrameToldRow.holds Tryd.pinned (OpenSpec.ofChange fnFrameToldSpec)

/-- ITS FALSE NEIGHBOUR: 'it returns false'. Refute it at one input. -/
def fnFrameToldWrong : ChangeSpec := { name := "fnFrameTold", vars := ["loop.example/g00688/impl.errNoFrame"], fn := fun _ => fun
  | [d, g1] => { results := [.lit (.bool false)], args := [d], vars := [g1] }
  | _ => none }
def FnFrameToldWrongFalsely : Prop := fnFrameToldRow.holds Tryd.pinned (OpenSpec.ofChange fnFrameToldWrong)

/-- 'laws.FnExactSparseAt': WHATEVER THE INPUT: true; the input reads as it did. -/
def fnExactSparseAtSpec : ChangeSpec := { name := "fnExactSparseAt", fn := fun _ => fun
  | [d1, d2] => { results := [.lit (.bool true)], args := [d1, d2] }
  | _ => none }
def fnExactSparseAtRow : OpenClaim := { program := "ytlbnngolcoefdaadoor", sum := "df317366f4eddfdccad3e2b97387ee57a3cfe14e7166f49aaeac38f2b6714a2e", func := "loop.example/g00688/laws.FnExactSparseAt", spec := "fnExactSparseAt", unfollowed := true, recurses := true, named := ["math/bits.deBruijn64tab"], apart := false, laid := [("math/bits.deBruijn64tab", laid_math_bits_deBruijn64tab)] }
def FnExactSparseAtSaid : Prop := fnExactSparseAtRow.holds Tryd.pinned (OpenSpec.ofChange fnExactSparseAtSpec)

/-- ITS FALSE NEIGHBOUR: 'it returns false'. Refute it at one input. -/
def fnExactSparseAtWrong : ChangeSpec := { name := "fnExactSparseAt", fn := fun _ => fun
  | [d1, d2] => { results := [.lit (.bool false)], args := [d1, d2] }
  | _ => none }
def FnExactSparseAtWrongFalsely : Prop := fnExactSparseAtRow.holds Tryd.pinned (OpenSpec.ofChange fnExactSparseAtWrong)

/-- 'laws.FnExactSparseHas': WHATEVER THE INPUT: true; the input reads as it did. -/
def fnExactSparseHasSpec : ChangeSpec := { name := "fnExactSparseHas", fn := fun _ => fun
  | [d1, d2] => { results := [.lit (.bool true)], args := [d1, d2] }
  | _ => none }
def fnExactSparseHasRow : OpenClaim := { program := "ytlbnngolcoefdaadoor", sum := "df317366f4eddfdccad3e2b97387ee57a3cfe14e7166f49aaeac38f2b6714a2e", func := "loop.example/g00688/laws.FnExactSparseHas", spec := "fnExactSparseHas", unfollowed := true, recurses := true, named := ["math/bits.deBruijn64tab"], apart := false, laid := [("math/bits.deBruijn64tab", laid_math_bits_deBruijn64tab)] }
def FnExactSparseHasSaid : Prop := fnExactSparseHasRow.holds Tryd.pinned (OpenSpec.ofChange fnExactSparseHasSpec)

/-- ITS FALSE NEIGHBOUR: 'it returns false'. Refute it at one input. -/
def fnExactSparseHasWrong : ChangeSpec := { name := "fnExactSparseHas", fn := fun _ => fun
  | [d1, d2] => { results := [.lit (.bool false)], args := [d1, d2] }
  | _ => none }
def FnExactSparseHasWrongFalsely : Prop := fnExactSparseHasRow.holds Tryd.pinned (OpenSpec.ofChange fnExactSparseHasWrong)

/-- 'laws.FnExactFrameRead': WHATEVER THE INPUT: true; the input reads as it did. -/
def fnExactFrameReadSpec : ChangeSpec := { name := "fnExactFrameRead", vars := ["loop.example/g00688/impl.errNoFrame"], fn := fun _ => fun
  | [d1, d2, g1] => { results := [.lit (.bool true)], args := [d1, d2], vars := [g1] }
  | _ => none }
def fnExactFrameReadRow : OpenClaim := { program := "ytlbnngolcoefdaadoor", sum := "df317366f4eddfdccad3e2b97387ee57a3cfe14e7166f49aaeac38f2b6714a2e", func := "loop.example/g00688/laws.FnExactFrameRead", spec := "fnExactFrameRead", inPlace := ["internal/reflectlite.TypeOf"], unfollowed := true, recurses := true, named := ["loop.example/g00688/impl.errNoFrame"], ifaces := true, apart := false, laid := [("loop.example/g00688/impl.errNoFrame", laid_loop_example_g00688_impl_errNoFrame)] }
def FnExactFrameReadSaid : Prop := fnExactFrameReadRow.holds Tryd.pinned (OpenSpec.ofChange fnExactFrameReadSpec)

/-- ITS FALSE NEIGHBOUR: 'it returns false'. Refute it at one input. -/
def fnExactFrameReadWrong : ChangeSpec := { name := "fnExactFrameRead", vars := ["loop.example/g00688/impl.errNoFrame"], fn := fun _ => fun
  | [d1, d2, g1] => { results := [.lit (.bool false)], args := [d1, d2], vars := [g1] }
  | _ => none }
def FnExactFrameReadWrongFalsely : Prop := fnExactFrameReadRow.holds Tryd.pinned (OpenSpec.ofChange fnExactFrameReadWrong)

/-- 'laws.FnExactFramesRead': WHATEVER THE INPUT: true; the input reads as it did. -/
def fnExactFramesReadSpec : ChangeSpec := { name := "fnExactFramesRead", vars := ["loop.example/g00688/impl.errNoFrame"], fn := fun _ => fun
  | [d, g1] => { results := [.lit (.bool true)], args := [d], vars := [g1] }
  | _ => none }
def fnExactFramesReadRow : OpenClaim := { program := "ytlbnngolcoefdaadoor", sum := "df317366f4eddfdccad3e2b97387ee57a3cfe14e7166f49aaeac38f2b6714a2e", func := "loop.example/g00688/laws.FnExactFramesRead", spec := "fnExactFramesRead", inPlace := ["internal/reflectlite.TypeOf"], unfollowed := true, recurses := true, named := ["loop.example/g00688/impl.errNoFrame"], ifaces := true, apart := false, laid := [("loop.example/g00688/impl.errNoFrame", laid_loop_example_g00688_impl_errNoFrame)] }
def FnExactFramesReadSaid : Prop := fnExactFramesReadRow.holds Tryd.pinned (OpenSpec.ofChange fnExactFramesReadSpec)

/-- ITS FALSE NEIGHBOUR: 'it returns false'. Refute it at one input. -/
def fnExactFramesReadWrong : ChangeSpec := { name := "fnExactFramesRead", vars := ["loop.example/g00688/impl.errNoFrame"], fn := fun _ => fun
  | [d, g1] => { results := [.lit (.bool false)], args := [d], vars := [g1] }
  | _ => none }
def FnExactFramesReadWrongFalsely : Prop := fnExactFramesReadRow.holds Tryd.pinned (OpenSpec.ofChange fnExactFramesReadWrong)

/- THE SECOND FORM. 'bulk': how many values and letters a reading holds, each counted each time it is reached (what is shared counts as often as it is met; a slice's spare places count too). A statement '..UptoSaid' is the law's where the arguments, and the package variables that the reading takes, are together of bulk at most 1048576: NARROWER than '..Said'. Prove '..Said' where nothing that the law and all that it calls make is longer than what came in: it says more and counts as full. Else prove '..UptoSaid'. A law counts once. -/
mutual
def uptoBulk {H : Type} : DataW H → Nat
  | .lit (.string bytes) => bytes.length + 1
  | .lit _ => 1
  | .nil => 1
  | .ptr d => uptoBulk d + 1
  | .slice elems spare => uptoBulkAll elems + uptoBulkAll spare + 1
  | .agg parts => uptoBulkAll parts + 1
  | .iface _ d => uptoBulk d + 1
  | .map entries => uptoBulkEntries entries + 1
  | .held _ => 1
def uptoBulkAll {H : Type} : List (DataW H) → Nat
  | [] => 0
  | d :: r => uptoBulk d + uptoBulkAll r
def uptoBulkEntries {H : Type} : List (Lit × DataW H) → Nat
  | [] => 0
  | x :: r => uptoBulkEntry x + uptoBulkEntries r
def uptoBulkEntry {H : Type} : Lit × DataW H → Nat
  | (.string bytes, d) => bytes.length + uptoBulk d + 1
  | (_, d) => uptoBulk d + 1
 end
def uptoSmall : (H : Type) → List (DataW H) → Bool := fun _ ds => decide (uptoBulkAll ds ≤ 1048576)
def OpenSpec.upto (s : _root_.Go.ChangeSpec) : _root_.Go.OpenSpec := { _root_.Go.OpenSpec.ofChange s with cond := some uptoSmall }

/-- 'laws.FnSparse', WHERE WHAT IT READS IS OF BULK AT MOST 1048576: true; the input reads as it did. -/
def fnSparseUptoRow : OpenClaim := { program := "ytlbnngolcoefdaadoor", sum := "df317366f4eddfdccad3e2b97387ee57a3cfe14e7166f49aaeac38f2b6714a2e", func := "loop.example/g00688/laws.FnSparse", spec := "fnSparse", unfollowed := true, recurses := true, named := ["math/bits.deBruijn64tab"], apart := false, laid := [("math/bits.deBruijn64tab", laid_math_bits_deBruijn64tab)], narrowed := true }
def FnSparseUptoSaid : Prop := fnSparseUptoRow.holds Tryd.pinned (OpenSpec.upto fnSparseSpec)

/-- 'laws.FnFramesBack', WHERE WHAT IT READS IS OF BULK AT MOST 1048576: true; the input reads as it did. -/
def fnFramesBackUptoRow : OpenClaim := { program := "ytlbnngolcoefdaadoor", sum := "df317366f4eddfdccad3e2b97387ee57a3cfe14e7166f49aaeac38f2b6714a2e", func := "loop.example/g00688/laws.FnFramesBack", spec := "fnFramesBack", inPlace := ["internal/reflectlite.TypeOf"], unfollowed := true, recurses := true, named := ["loop.example/g00688/impl.errNoFrame"], ifaces := true, apart := false, laid := [("loop.example/g00688/impl.errNoFrame", laid_loop_example_g00688_impl_errNoFrame)], narrowed := true }
def FnFramesBackUptoSaid : Prop := fnFramesBackUptoRow.holds Tryd.pinned (OpenSpec.upto fnFramesBackSpec)

/-- 'laws.FnFrameTold', WHERE WHAT IT READS IS OF BULK AT MOST 1048576: true; the input reads as it did. -/
def fnFrameToldUptoRow : OpenClaim := { program := "ytlbnngolcoefdaadoor", sum := "df317366f4eddfdccad3e2b97387ee57a3cfe14e7166f49aaeac38f2b6714a2e", func := "loop.example/g00688/laws.FnFrameTold", spec := "fnFrameTold", inPlace := ["internal/reflectlite.TypeOf"], unfollowed := true, recurses := true, named := ["loop.example/g00688/impl.errNoFrame"], ifaces := true, apart := false, laid := [("loop.example/g00688/impl.errNoFrame", laid_loop_example_g00688_impl_errNoFrame)], narrowed := true }
def FnFrameToldUptoSaid : Prop := fnFrameToldUptoRow.holds Tryd.pinned (OpenSpec.upto fnFrameToldSpec)

/-- 'laws.FnExactSparseAt', WHERE WHAT IT READS IS OF BULK AT MOST 1048576: true; the input reads as it did. -/
def fnExactSparseAtUptoRow : OpenClaim := { program := "ytlbnngolcoefdaadoor", sum := "df317366f4eddfdccad3e2b97387ee57a3cfe14e7166f49aaeac38f2b6714a2e", func := "loop.example/g00688/laws.FnExactSparseAt", spec := "fnExactSparseAt", unfollowed := true, recurses := true, named := ["math/bits.deBruijn64tab"], apart := false, laid := [("math/bits.deBruijn64tab", laid_math_bits_deBruijn64tab)], narrowed := true }
def FnExactSparseAtUptoSaid : Prop := fnExactSparseAtUptoRow.holds Tryd.pinned (OpenSpec.upto fnExactSparseAtSpec)

/-- 'laws.FnExactSparseHas', WHERE WHAT IT READS IS OF BULK AT MOST 1048576: true; the input reads as it did. -/
def fnExactSparseHasUptoRow : OpenClaim := { program := "ytlbnngolcoefdaadoor", sum := "df317366f4eddfdccad3e2b97387ee57a3cfe14e7166f49aaeac38f2b6714a2e", func := "loop.example/g00688/laws.FnExactSparseHas", spec := "fnExactSparseHas", unfollowed := true, recurses := true, named := ["math/bits.deBruijn64tab"], apart := false, laid := [("math/bits.deBruijn64tab", laid_math_bits_deBruijn64tab)], narrowed := true }
def FnExactSparseHasUptoSaid : Prop := fnExactSparseHasUptoRow.holds Tryd.pinned (OpenSpec.upto fnExactSparseHasSpec)

/-- 'laws.FnExactFrameRead', WHERE WHAT IT READS IS OF BULK AT MOST 1048576: true; the input reads as it did. -/
def fnExactFrameReadUptoRow : OpenClaim := { program := "ytlbnngolcoefdaadoor", sum := "df317366f4eddfdccad3e2b97387ee57a3cfe14e7166f49aaeac38f2b6714a2e", func := "loop.example/g00688/laws.FnExactFrameRead", spec := "fnExactFrameRead", inPlace := ["internal/reflectlite.TypeOf"], unfollowed := true, recurses := true, named := ["loop.example/g00688/impl.errNoFrame"], ifaces := true, apart := false, laid := [("loop.example/g00688/impl.errNoFrame", laid_loop_example_g00688_impl_errNoFrame)], narrowed := true }
def FnExactFrameReadUptoSaid : Prop := fnExactFrameReadUptoRow.holds Tryd.pinned (OpenSpec.upto fnExactFrameReadSpec)

/-- 'laws.FnExactFramesRead', WHERE WHAT IT READS IS OF BULK AT MOST 1048576: true; the input reads as it did. -/
def fnExactFramesReadUptoRow : OpenClaim := { program := "ytlbnngolcoefdaadoor", sum := "df317366f4eddfdccad3e2b97387ee57a3cfe14e7166f49aaeac38f2b6714a2e", func := "loop.example/g00688/laws.FnExactFramesRead", spec := "fnExactFramesRead", inPlace := ["internal/reflectlite.TypeOf"], unfollowed := true, recurses := true, named := ["loop.example/g00688/impl.errNoFrame"], ifaces := true, apart := false, laid := [("loop.example/g00688/impl.errNoFrame", laid_loop_example_g00688_impl_errNoFrame)], narrowed := true }
def FnExactFramesReadUptoSaid : Prop := fnExactFramesReadUptoRow.holds Tryd.pinned (OpenSpec.upto fnExactFramesReadSpec)

end Rows
end Go.Proofs.YtlbnngolcoefdaaDoor
