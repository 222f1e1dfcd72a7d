/-
  DERIVED. GIVEN WITH THE SEED: THE CARDS: each row of YtanllfidbhjboaaDoorRows.lean that lists a variable, with what it lists TIED to the program's text (the seventh form; the later family's looks); each row that meets fmt, with fmt's text TOLD by the authors' own Lean function (tested against real Go, not proved from fmt's source: count such statements apart). THE CARD IS WHAT COUNTS. Prove the row's statement (the work); the ties are given (YtanllfidbhjboaaDoorTie.lean); close each card by the builder's one call (the guide's Derived/Test/ToyasCard.lean, 'card_holds'). Laid BY PROGRAM, IN A SANDBOX (cutbox-door.mjs). By AI agents, Wed Nov 11 2026. No macro, syntax, notation, axiom, sorry.
-/
import Derived.Test.YtanllfidbhjboaaDoorRows
import GoSem.ClaimSeven
namespace Go.Proofs.YtanllfidbhjboaaDoor
namespace Rows

/-- THE TIED CARD OF 'laws.FnRankSelect'. -/
def fnRankSelectCard : Claim7 := { stood := { row := fnRankSelectRow, standIns := [], harness := (true, "e09054e7348d856766b776aca72535ad224efef5cf80fb6725ccc8ea64280778"), looks := false }, kinds := [], alts := [], laidByText := true, laidKinds := [.data], laidTests := true, laidLooks := .later }
def FnRankSelectCardSaid : Prop := Claim7.holds Tryd.pinned (.plain (OpenSpec.ofChange fnRankSelectSpec)) fnRankSelectCard

/-- THE TIED CARD OF 'laws.FnSparse'. -/
def fnSparseCard : Claim7 := { stood := { row := fnSparseRow, standIns := [], harness := (true, "e09054e7348d856766b776aca72535ad224efef5cf80fb6725ccc8ea64280778"), looks := false }, kinds := [], alts := [], laidByText := true, laidKinds := [.data], laidTests := true, laidLooks := .later }
def FnSparseCardSaid : Prop := Claim7.holds Tryd.pinned (.plain (OpenSpec.ofChange fnSparseSpec)) fnSparseCard

/-- THE TIED CARD OF 'laws.FnExactSparseAt'. -/
def fnExactSparseAtCard : Claim7 := { stood := { row := fnExactSparseAtRow, standIns := [], harness := (true, "e09054e7348d856766b776aca72535ad224efef5cf80fb6725ccc8ea64280778"), looks := false }, kinds := [], alts := [], laidByText := true, laidKinds := [.data], laidTests := true, laidLooks := .later }
def FnExactSparseAtCardSaid : Prop := Claim7.holds Tryd.pinned (.plain (OpenSpec.ofChange fnExactSparseAtSpec)) fnExactSparseAtCard

/-- THE TIED CARD OF 'laws.FnExactSparseHas'. -/
def fnExactSparseHasCard : Claim7 := { stood := { row := fnExactSparseHasRow, standIns := [], harness := (true, "e09054e7348d856766b776aca72535ad224efef5cf80fb6725ccc8ea64280778"), looks := false }, kinds := [], alts := [], laidByText := true, laidKinds := [.data], laidTests := true, laidLooks := .later }
def FnExactSparseHasCardSaid : Prop := Claim7.holds Tryd.pinned (.plain (OpenSpec.ofChange fnExactSparseHasSpec)) fnExactSparseHasCard

/-- THE SECOND FORM's CARD OF 'laws.FnRankSelect'. -/
def fnRankSelectUptoCard : Claim7 := { stood := { row := fnRankSelectUptoRow, standIns := [], harness := (true, "e09054e7348d856766b776aca72535ad224efef5cf80fb6725ccc8ea64280778"), looks := false }, kinds := [], alts := [], laidByText := true, laidKinds := [.data], laidTests := true, laidLooks := .later }
def FnRankSelectUptoCardSaid : Prop := Claim7.holds Tryd.pinned (.plain (OpenSpec.upto fnRankSelectSpec)) fnRankSelectUptoCard

/-- THE SECOND FORM's CARD OF 'laws.FnSparse'. -/
def fnSparseUptoCard : Claim7 := { stood := { row := fnSparseUptoRow, standIns := [], harness := (true, "e09054e7348d856766b776aca72535ad224efef5cf80fb6725ccc8ea64280778"), looks := false }, kinds := [], alts := [], laidByText := true, laidKinds := [.data], laidTests := true, laidLooks := .later }
def FnSparseUptoCardSaid : Prop := Claim7.holds Tryd.pinned (.plain (OpenSpec.upto fnSparseSpec)) fnSparseUptoCard

/-- THE SECOND FORM's CARD OF 'laws.FnExactSparseAt'. -/
def fnExactSparseAtUptoCard : Claim7 := { stood := { row := fnExactSparseAtUptoRow, standIns := [], harness := (true, "e09054e7348d856766b776aca72535ad224efef5cf80fb6725ccc8ea64280778"), looks := false }, kinds := [], alts := [], laidByText := true, laidKinds := [.data], laidTests := true, laidLooks := .later }
def FnExactSparseAtUptoCardSaid : Prop := Claim7.holds Tryd.pinned (.plain (OpenSpec.upto fnExactSparseAtSpec)) fnExactSparseAtUptoCard

/-- THE SECOND FORM's CARD OF 'laws.FnExactSparseHas'. -/
def fnExactSparseHasUptoCard : Claim7 := { stood := { row := fnExactSparseHasUptoRow, standIns := [], harness := (true, "e09054e7348d856766b776aca72535ad224efef5cf80fb6725ccc8ea64280778"), looks := false }, kinds := [], alts := [], laidByText := true, laidKinds := [.data], laidTests := true, laidLooks := .later }
def FnExactSparseHasUptoCardSaid : Prop := Claim7.holds Tryd.pinned (.plain (OpenSpec.upto fnExactSparseHasSpec)) fnExactSparseHasUptoCard
end Rows
end Go.Proofs.YtanllfidbhjboaaDoor
