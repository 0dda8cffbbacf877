/-
  DERIVED. GIVEN WITH THE SEED: THE CARDS: each row of YthijeckcjfnbcaaDoorRows.lean that lists a variable, with what it lists TIED to the program's text (the seventh form; the later family's looks); each row that meets fmt, with fmt's text TOLD by the authors' own Lean function (tested against real Go, not proved from fmt's source: count such statements apart). THE CARD IS WHAT COUNTS. Prove the row's statement (the work); the ties are given (YthijeckcjfnbcaaDoorTie.lean); close each card by the builder's one call (the guide's Derived/Test/ToyasCard.lean, 'card_holds'). Laid BY PROGRAM, IN A SANDBOX (cutbox-door.mjs). By AI agents, Wed Nov 11 2026. No macro, syntax, notation, axiom, sorry.
-/
import Derived.Test.YthijeckcjfnbcaaDoorRows
import GoSem.ClaimSeven
namespace Go.Proofs.YthijeckcjfnbcaaDoor
namespace Rows

/-- THE TIED CARD OF 'laws.FnDecBack'. -/
def fnDecBackCard : Claim7 := { stood := { row := fnDecBackRow, standIns := [], harness := (true, "86154f6162f5d578915734b550b0985199ebc4c6cbdc19a55ea5eb9ab8bd067c"), looks := false }, kinds := [], alts := [], laidByText := true, laidKinds := [.data, .data, .data, .data, .pinned], laidTests := true, laidLooks := .later }
def FnDecBackCardSaid : Prop := Claim7.holds Tryd.pinned (.plain (OpenSpec.ofChange fnDecBackSpec)) fnDecBackCard

/-- THE TIED CARD OF 'laws.FnDecDivides'. -/
def fnDecDividesCard : Claim7 := { stood := { row := fnDecDividesRow, standIns := [], harness := (true, "86154f6162f5d578915734b550b0985199ebc4c6cbdc19a55ea5eb9ab8bd067c"), looks := false }, kinds := [], alts := [], laidByText := true, laidKinds := [.data, .pinned], laidTests := true, laidLooks := .later }
def FnDecDividesCardSaid : Prop := Claim7.holds Tryd.pinned (.plain (OpenSpec.ofChange fnDecDividesSpec)) fnDecDividesCard

/-- THE SECOND FORM's CARD OF 'laws.FnDecBack'. -/
def fnDecBackUptoCard : Claim7 := { stood := { row := fnDecBackUptoRow, standIns := [], harness := (true, "86154f6162f5d578915734b550b0985199ebc4c6cbdc19a55ea5eb9ab8bd067c"), looks := false }, kinds := [], alts := [], laidByText := true, laidKinds := [.data, .data, .data, .data, .pinned], laidTests := true, laidLooks := .later }
def FnDecBackUptoCardSaid : Prop := Claim7.holds Tryd.pinned (.plain (OpenSpec.upto fnDecBackSpec)) fnDecBackUptoCard

/-- THE SECOND FORM's CARD OF 'laws.FnDecDivides'. -/
def fnDecDividesUptoCard : Claim7 := { stood := { row := fnDecDividesUptoRow, standIns := [], harness := (true, "86154f6162f5d578915734b550b0985199ebc4c6cbdc19a55ea5eb9ab8bd067c"), looks := false }, kinds := [], alts := [], laidByText := true, laidKinds := [.data, .pinned], laidTests := true, laidLooks := .later }
def FnDecDividesUptoCardSaid : Prop := Claim7.holds Tryd.pinned (.plain (OpenSpec.upto fnDecDividesSpec)) fnDecDividesUptoCard
end Rows
end Go.Proofs.YthijeckcjfnbcaaDoor
