/-
  DERIVED. GIVEN WITH THE SEED: THE CARDS: each row of YticndfdicalmcabDoorRows.lean that lists a variable, with what it lists TIED to the program's text (the seventh form; the later family's looks); each row that meets fmt, with fmt's text TOLD by the authors' own Lean function (tested against real Go, not proved from fmt's source: count such statements apart). THE CARD IS WHAT COUNTS. Prove the row's statement (the work); the ties are given (YticndfdicalmcabDoorTie.lean); close each card by the builder's one call (the guide's Derived/Test/ToyasCard.lean, 'card_holds'). Laid BY PROGRAM, IN A SANDBOX (cutbox-door.mjs). By AI agents, Wed Nov 11 2026. No macro, syntax, notation, axiom, sorry.
-/
import Derived.Test.YticndfdicalmcabDoorRows
import GoSem.ClaimSeven
namespace Go.Proofs.YticndfdicalmcabDoor
namespace Rows

/-- THE TIED CARD OF 'laws.FnRankSelect'. -/
def fnRankSelectCard : Claim7 := { stood := { row := fnRankSelectRow, standIns := [], harness := (true, "00f1690ff292812aade4081276bef428c7b014f005cc69f31a9d03b3169e2562"), looks := false }, kinds := [], alts := [], laidByText := true, laidKinds := [.data], laidTests := true, laidLooks := .later }
def FnRankSelectCardSaid : Prop := Claim7.holds Tryd.pinned (.plain (OpenSpec.ofChange fnRankSelectSpec)) fnRankSelectCard

/-- THE TIED CARD OF 'laws.FnExactSelect'. -/
def fnExactSelectCard : Claim7 := { stood := { row := fnExactSelectRow, standIns := [], harness := (true, "00f1690ff292812aade4081276bef428c7b014f005cc69f31a9d03b3169e2562"), looks := false }, kinds := [], alts := [], laidByText := true, laidKinds := [.data], laidTests := true, laidLooks := .later }
def FnExactSelectCardSaid : Prop := Claim7.holds Tryd.pinned (.plain (OpenSpec.ofChange fnExactSelectSpec)) fnExactSelectCard

/-- THE SECOND FORM's CARD OF 'laws.FnRankSelect'. -/
def fnRankSelectUptoCard : Claim7 := { stood := { row := fnRankSelectUptoRow, standIns := [], harness := (true, "00f1690ff292812aade4081276bef428c7b014f005cc69f31a9d03b3169e2562"), looks := false }, kinds := [], alts := [], laidByText := true, laidKinds := [.data], laidTests := true, laidLooks := .later }
def FnRankSelectUptoCardSaid : Prop := Claim7.holds Tryd.pinned (.plain (OpenSpec.upto fnRankSelectSpec)) fnRankSelectUptoCard

/-- THE SECOND FORM's CARD OF 'laws.FnExactSelect'. -/
def fnExactSelectUptoCard : Claim7 := { stood := { row := fnExactSelectUptoRow, standIns := [], harness := (true, "00f1690ff292812aade4081276bef428c7b014f005cc69f31a9d03b3169e2562"), looks := false }, kinds := [], alts := [], laidByText := true, laidKinds := [.data], laidTests := true, laidLooks := .later }
def FnExactSelectUptoCardSaid : Prop := Claim7.holds Tryd.pinned (.plain (OpenSpec.upto fnExactSelectSpec)) fnExactSelectUptoCard
end Rows
end Go.Proofs.YticndfdicalmcabDoor
