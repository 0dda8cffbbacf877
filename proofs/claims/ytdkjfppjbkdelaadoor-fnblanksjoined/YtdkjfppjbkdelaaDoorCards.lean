/-
  DERIVED. GIVEN WITH THE SEED: THE CARDS: each row of YtdkjfppjbkdelaaDoorRows.lean that lists a variable, with what it lists TIED to the program's text (the seventh form; the later family's looks); each row that meets fmt, with fmt's text TOLD by the authors' own Lean function (tested against real Go, not proved from fmt's source: count such statements apart). THE CARD IS WHAT COUNTS. Prove the row's statement (the work); the ties are given (YtdkjfppjbkdelaaDoorTie.lean); close each card by the builder's one call (the guide's Derived/Test/ToyasCard.lean, 'card_holds'). Laid BY PROGRAM, IN A SANDBOX (cutbox-door.mjs). By AI agents, Wed Nov 11 2026. No macro, syntax, notation, axiom, sorry.
-/
import Derived.Test.YtdkjfppjbkdelaaDoorRows
import GoSem.ClaimSeven
namespace Go.Proofs.YtdkjfppjbkdelaaDoor
namespace Rows

/-- THE TIED CARD OF 'laws.FnBlanksJoined'. -/
def fnBlanksJoinedCard : Claim7 := { stood := { row := fnBlanksJoinedRow, standIns := [], harness := (true, "8cadb0d10322ff06ce96f3885bc0ff8a40ee37d027865b6888ba37b03381bf94"), looks := false }, kinds := [], alts := [], laidByText := true, laidKinds := [.data, .pinned], laidTests := true, laidLooks := .later }
def FnBlanksJoinedCardSaid : Prop := Claim7.holds Tryd.pinned (.plain (OpenSpec.ofChange fnBlanksJoinedSpec)) fnBlanksJoinedCard

/-- THE TIED CARD OF 'laws.FnLinesBack'. -/
def fnLinesBackCard : Claim7 := { stood := { row := fnLinesBackRow, standIns := [], harness := (true, "8cadb0d10322ff06ce96f3885bc0ff8a40ee37d027865b6888ba37b03381bf94"), looks := false }, kinds := [], alts := [], laidByText := true, laidKinds := [.data, .pinned], laidTests := true, laidLooks := .later }
def FnLinesBackCardSaid : Prop := Claim7.holds Tryd.pinned (.plain (OpenSpec.ofChange fnLinesBackSpec)) fnLinesBackCard

/-- THE TIED CARD OF 'laws.FnExactNfaFind'. -/
def fnExactNfaFindCard : Claim7 := { stood := { row := fnExactNfaFindRow, standIns := [], harness := (true, "8cadb0d10322ff06ce96f3885bc0ff8a40ee37d027865b6888ba37b03381bf94"), looks := false }, kinds := [], alts := [], laidByText := true, laidKinds := [.data, .pinned], laidTests := true, laidLooks := .later }
def FnExactNfaFindCardSaid : Prop := Claim7.holds Tryd.pinned (.plain (OpenSpec.ofChange fnExactNfaFindSpec)) fnExactNfaFindCard

/-- THE SECOND FORM's CARD OF 'laws.FnBlanksJoined'. -/
def fnBlanksJoinedUptoCard : Claim7 := { stood := { row := fnBlanksJoinedUptoRow, standIns := [], harness := (true, "8cadb0d10322ff06ce96f3885bc0ff8a40ee37d027865b6888ba37b03381bf94"), looks := false }, kinds := [], alts := [], laidByText := true, laidKinds := [.data, .pinned], laidTests := true, laidLooks := .later }
def FnBlanksJoinedUptoCardSaid : Prop := Claim7.holds Tryd.pinned (.plain (OpenSpec.upto fnBlanksJoinedSpec)) fnBlanksJoinedUptoCard

/-- THE SECOND FORM's CARD OF 'laws.FnLinesBack'. -/
def fnLinesBackUptoCard : Claim7 := { stood := { row := fnLinesBackUptoRow, standIns := [], harness := (true, "8cadb0d10322ff06ce96f3885bc0ff8a40ee37d027865b6888ba37b03381bf94"), looks := false }, kinds := [], alts := [], laidByText := true, laidKinds := [.data, .pinned], laidTests := true, laidLooks := .later }
def FnLinesBackUptoCardSaid : Prop := Claim7.holds Tryd.pinned (.plain (OpenSpec.upto fnLinesBackSpec)) fnLinesBackUptoCard

/-- THE SECOND FORM's CARD OF 'laws.FnExactNfaFind'. -/
def fnExactNfaFindUptoCard : Claim7 := { stood := { row := fnExactNfaFindUptoRow, standIns := [], harness := (true, "8cadb0d10322ff06ce96f3885bc0ff8a40ee37d027865b6888ba37b03381bf94"), looks := false }, kinds := [], alts := [], laidByText := true, laidKinds := [.data, .pinned], laidTests := true, laidLooks := .later }
def FnExactNfaFindUptoCardSaid : Prop := Claim7.holds Tryd.pinned (.plain (OpenSpec.upto fnExactNfaFindSpec)) fnExactNfaFindUptoCard
end Rows
end Go.Proofs.YtdkjfppjbkdelaaDoor
