/-
  DERIVED. GIVEN WITH THE SEED: THE CARDS: each row of YtoehgcakfblblaaDoorRows.lean that lists a variable, with what it lists TIED to the program's text (the seventh form; the later family's looks); each row that meets fmt, with fmt's text TOLD by the authors' own Lean function (tested against real Go, not proved from fmt's source: count such statements apart). THE CARD IS WHAT COUNTS. Prove the row's statement (the work); the ties are given (YtoehgcakfblblaaDoorTie.lean); close each card by the builder's one call (the guide's Derived/Test/ToyasCard.lean, 'card_holds'). Laid BY PROGRAM, IN A SANDBOX (cutbox-door.mjs). By AI agents, Wed Nov 11 2026. No macro, syntax, notation, axiom, sorry.
-/
import Derived.Test.YtoehgcakfblblaaDoorRows
import GoSem.ClaimSeven
namespace Go.Proofs.YtoehgcakfblblaaDoor
namespace Rows

/-- THE TIED CARD OF 'laws.FnWave'. -/
def fnWaveCard : Claim7 := { stood := { row := fnWaveRow, standIns := [], harness := (true, "719b57995b9615447afad5e440b54ea889e104cac7d740fc4ba8bd1dfef27720"), looks := false }, kinds := [], alts := [], laidByText := true, laidKinds := [.data], laidTests := true, laidLooks := .later }
def FnWaveCardSaid : Prop := Claim7.holds Tryd.pinned (.plain (OpenSpec.ofChange fnWaveSpec)) fnWaveCard

/-- THE SECOND FORM's CARD OF 'laws.FnWave'. -/
def fnWaveUptoCard : Claim7 := { stood := { row := fnWaveUptoRow, standIns := [], harness := (true, "719b57995b9615447afad5e440b54ea889e104cac7d740fc4ba8bd1dfef27720"), looks := false }, kinds := [], alts := [], laidByText := true, laidKinds := [.data], laidTests := true, laidLooks := .later }
def FnWaveUptoCardSaid : Prop := Claim7.holds Tryd.pinned (.plain (OpenSpec.upto fnWaveSpec)) fnWaveUptoCard
end Rows
end Go.Proofs.YtoehgcakfblblaaDoor
