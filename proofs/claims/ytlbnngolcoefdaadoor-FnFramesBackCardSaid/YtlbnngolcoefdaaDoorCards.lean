/-
  DERIVED. GIVEN WITH THE SEED: THE CARDS: each row of YtlbnngolcoefdaaDoorRows.lean that lists a variable, with what it lists TIED to the program's text (the seventh form; the later family's looks); each row that meets fmt, with fmt's text TOLD by the authors' own Lean function (tested against real Go, not proved from fmt's source: count such statements apart). THE CARD IS WHAT COUNTS. Prove the row's statement (the work); the ties are given (YtlbnngolcoefdaaDoorTie.lean); close each card by the builder's one call (the guide's Derived/Test/ToyasCard.lean, 'card_holds'). Laid BY PROGRAM, IN A SANDBOX (cutbox-door.mjs). By AI agents, Wed Nov 11 2026. No macro, syntax, notation, axiom, sorry.
-/
import Derived.Test.YtlbnngolcoefdaaDoorRows
import GoSem.ClaimSeven
namespace Go.Proofs.YtlbnngolcoefdaaDoor
namespace Rows

/-- THE TIED CARD OF 'laws.FnSparse'. -/
def fnSparseCard : Claim7 := { stood := { row := fnSparseRow, standIns := [], harness := (true, "ded0e5980dd885d8ff6782107059c48c9a7d52aec32c0da568c67cb210b1fee1"), looks := true }, kinds := [], alts := [], laidByText := true, laidKinds := [.data], laidTests := true, laidLooks := .later }
def FnSparseCardSaid : Prop := Claim7.holds Tryd.pinned (.plain (OpenSpec.ofChange fnSparseSpec)) fnSparseCard

/-- THE TIED CARD OF 'laws.FnFramesBack'. -/
def fnFramesBackCard : Claim7 := { stood := { row := fnFramesBackRow, standIns := [], harness := (true, "ded0e5980dd885d8ff6782107059c48c9a7d52aec32c0da568c67cb210b1fee1"), looks := true }, kinds := [], alts := [], laidByText := true, laidKinds := [.sentinel], laidTests := true, laidLooks := .later }
def FnFramesBackCardSaid : Prop := Claim7.holds Tryd.pinned (.plain (OpenSpec.ofChange fnFramesBackSpec)) fnFramesBackCard

/-- THE TIED CARD OF 'laws.FnFrameTold'. -/
def fnFrameToldCard : Claim7 := { stood := { row := fnFrameToldRow, standIns := [], harness := (true, "ded0e5980dd885d8ff6782107059c48c9a7d52aec32c0da568c67cb210b1fee1"), looks := true }, kinds := [], alts := [], laidByText := true, laidKinds := [.sentinel], laidTests := true, laidLooks := .later }
def FnFrameToldCardSaid : Prop := Claim7.holds Tryd.pinned (.plain (OpenSpec.ofChange fnFrameToldSpec)) fnFrameToldCard

/-- THE TIED CARD OF 'laws.FnExactSparseAt'. -/
def fnExactSparseAtCard : Claim7 := { stood := { row := fnExactSparseAtRow, standIns := [], harness := (true, "ded0e5980dd885d8ff6782107059c48c9a7d52aec32c0da568c67cb210b1fee1"), looks := true }, kinds := [], alts := [], laidByText := true, laidKinds := [.data], laidTests := true, laidLooks := .later }
def FnExactSparseAtCardSaid : Prop := Claim7.holds Tryd.pinned (.plain (OpenSpec.ofChange fnExactSparseAtSpec)) fnExactSparseAtCard

/-- THE TIED CARD OF 'laws.FnExactSparseHas'. -/
def fnExactSparseHasCard : Claim7 := { stood := { row := fnExactSparseHasRow, standIns := [], harness := (true, "ded0e5980dd885d8ff6782107059c48c9a7d52aec32c0da568c67cb210b1fee1"), looks := true }, kinds := [], alts := [], laidByText := true, laidKinds := [.data], laidTests := true, laidLooks := .later }
def FnExactSparseHasCardSaid : Prop := Claim7.holds Tryd.pinned (.plain (OpenSpec.ofChange fnExactSparseHasSpec)) fnExactSparseHasCard

/-- THE TIED CARD OF 'laws.FnExactFrameRead'. -/
def fnExactFrameReadCard : Claim7 := { stood := { row := fnExactFrameReadRow, standIns := [], harness := (true, "ded0e5980dd885d8ff6782107059c48c9a7d52aec32c0da568c67cb210b1fee1"), looks := true }, kinds := [], alts := [], laidByText := true, laidKinds := [.sentinel], laidTests := true, laidLooks := .later }
def FnExactFrameReadCardSaid : Prop := Claim7.holds Tryd.pinned (.plain (OpenSpec.ofChange fnExactFrameReadSpec)) fnExactFrameReadCard

/-- THE TIED CARD OF 'laws.FnExactFramesRead'. -/
def fnExactFramesReadCard : Claim7 := { stood := { row := fnExactFramesReadRow, standIns := [], harness := (true, "ded0e5980dd885d8ff6782107059c48c9a7d52aec32c0da568c67cb210b1fee1"), looks := true }, kinds := [], alts := [], laidByText := true, laidKinds := [.sentinel], laidTests := true, laidLooks := .later }
def FnExactFramesReadCardSaid : Prop := Claim7.holds Tryd.pinned (.plain (OpenSpec.ofChange fnExactFramesReadSpec)) fnExactFramesReadCard

/-- THE SECOND FORM's CARD OF 'laws.FnSparse'. -/
def fnSparseUptoCard : Claim7 := { stood := { row := fnSparseUptoRow, standIns := [], harness := (true, "ded0e5980dd885d8ff6782107059c48c9a7d52aec32c0da568c67cb210b1fee1"), looks := true }, kinds := [], alts := [], laidByText := true, laidKinds := [.data], laidTests := true, laidLooks := .later }
def FnSparseUptoCardSaid : Prop := Claim7.holds Tryd.pinned (.plain (OpenSpec.upto fnSparseSpec)) fnSparseUptoCard

/-- THE SECOND FORM's CARD OF 'laws.FnFramesBack'. -/
def fnFramesBackUptoCard : Claim7 := { stood := { row := fnFramesBackUptoRow, standIns := [], harness := (true, "ded0e5980dd885d8ff6782107059c48c9a7d52aec32c0da568c67cb210b1fee1"), looks := true }, kinds := [], alts := [], laidByText := true, laidKinds := [.sentinel], laidTests := true, laidLooks := .later }
def FnFramesBackUptoCardSaid : Prop := Claim7.holds Tryd.pinned (.plain (OpenSpec.upto fnFramesBackSpec)) fnFramesBackUptoCard

/-- THE SECOND FORM's CARD OF 'laws.FnFrameTold'. -/
def fnFrameToldUptoCard : Claim7 := { stood := { row := fnFrameToldUptoRow, standIns := [], harness := (true, "ded0e5980dd885d8ff6782107059c48c9a7d52aec32c0da568c67cb210b1fee1"), looks := true }, kinds := [], alts := [], laidByText := true, laidKinds := [.sentinel], laidTests := true, laidLooks := .later }
def FnFrameToldUptoCardSaid : Prop := Claim7.holds Tryd.pinned (.plain (OpenSpec.upto fnFrameToldSpec)) fnFrameToldUptoCard

/-- THE SECOND FORM's CARD OF 'laws.FnExactSparseAt'. -/
def fnExactSparseAtUptoCard : Claim7 := { stood := { row := fnExactSparseAtUptoRow, standIns := [], harness := (true, "ded0e5980dd885d8ff6782107059c48c9a7d52aec32c0da568c67cb210b1fee1"), looks := true }, kinds := [], alts := [], laidByText := true, laidKinds := [.data], laidTests := true, laidLooks := .later }
def FnExactSparseAtUptoCardSaid : Prop := Claim7.holds Tryd.pinned (.plain (OpenSpec.upto fnExactSparseAtSpec)) fnExactSparseAtUptoCard

/-- THE SECOND FORM's CARD OF 'laws.FnExactSparseHas'. -/
def fnExactSparseHasUptoCard : Claim7 := { stood := { row := fnExactSparseHasUptoRow, standIns := [], harness := (true, "ded0e5980dd885d8ff6782107059c48c9a7d52aec32c0da568c67cb210b1fee1"), looks := true }, kinds := [], alts := [], laidByText := true, laidKinds := [.data], laidTests := true, laidLooks := .later }
def FnExactSparseHasUptoCardSaid : Prop := Claim7.holds Tryd.pinned (.plain (OpenSpec.upto fnExactSparseHasSpec)) fnExactSparseHasUptoCard

/-- THE SECOND FORM's CARD OF 'laws.FnExactFrameRead'. -/
def fnExactFrameReadUptoCard : Claim7 := { stood := { row := fnExactFrameReadUptoRow, standIns := [], harness := (true, "ded0e5980dd885d8ff6782107059c48c9a7d52aec32c0da568c67cb210b1fee1"), looks := true }, kinds := [], alts := [], laidByText := true, laidKinds := [.sentinel], laidTests := true, laidLooks := .later }
def FnExactFrameReadUptoCardSaid : Prop := Claim7.holds Tryd.pinned (.plain (OpenSpec.upto fnExactFrameReadSpec)) fnExactFrameReadUptoCard

/-- THE SECOND FORM's CARD OF 'laws.FnExactFramesRead'. -/
def fnExactFramesReadUptoCard : Claim7 := { stood := { row := fnExactFramesReadUptoRow, standIns := [], harness := (true, "ded0e5980dd885d8ff6782107059c48c9a7d52aec32c0da568c67cb210b1fee1"), looks := true }, kinds := [], alts := [], laidByText := true, laidKinds := [.sentinel], laidTests := true, laidLooks := .later }
def FnExactFramesReadUptoCardSaid : Prop := Claim7.holds Tryd.pinned (.plain (OpenSpec.upto fnExactFramesReadSpec)) fnExactFramesReadUptoCard
end Rows
end Go.Proofs.YtlbnngolcoefdaaDoor
