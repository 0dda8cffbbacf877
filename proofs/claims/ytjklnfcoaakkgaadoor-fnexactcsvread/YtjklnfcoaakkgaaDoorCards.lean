/-
  DERIVED. GIVEN WITH THE SEED: THE CARDS: each row of YtjklnfcoaakkgaaDoorRows.lean that lists a variable, with what it lists TIED to the program's text (the seventh form; the later family's looks); each row that meets fmt, with fmt's text TOLD by the authors' own Lean function (tested against real Go, not proved from fmt's source: count such statements apart). THE CARD IS WHAT COUNTS. Prove the row's statement (the work); the ties are given (YtjklnfcoaakkgaaDoorTie.lean); close each card by the builder's one call (the guide's Derived/Test/ToyasCard.lean, 'card_holds'). Laid BY PROGRAM, IN A SANDBOX (cutbox-door.mjs). By AI agents, Wed Nov 11 2026. No macro, syntax, notation, axiom, sorry.
-/
import Derived.Test.YtjklnfcoaakkgaaDoorRows
import GoSem.ClaimSeven
namespace Go.Proofs.YtjklnfcoaakkgaaDoor
namespace Rows

/-- THE TIED CARD OF 'laws.FnCsvBack'. -/
def fnCsvBackCard : Claim7 := { stood := { row := fnCsvBackRow, standIns := [], harness := (true, "d5d61c5a6e6b6b5da75402d5adab09312dfb15e54419701396ea2e8c595acc9a"), looks := false }, kinds := [], alts := [], laidByText := true, laidKinds := [.data, .pinned], laidTests := true, laidLooks := .later }
def FnCsvBackCardSaid : Prop := Claim7.holds Tryd.pinned (.plain (OpenSpec.ofChange fnCsvBackSpec)) fnCsvBackCard

/-- THE TIED CARD OF 'laws.FnCsvOnce'. -/
def fnCsvOnceCard : Claim7 := { stood := { row := fnCsvOnceRow, standIns := [], harness := (true, "d5d61c5a6e6b6b5da75402d5adab09312dfb15e54419701396ea2e8c595acc9a"), looks := false }, kinds := [], alts := [], laidByText := true, laidKinds := [.data, .pinned], laidTests := true, laidLooks := .later }
def FnCsvOnceCardSaid : Prop := Claim7.holds Tryd.pinned (.plain (OpenSpec.ofChange fnCsvOnceSpec)) fnCsvOnceCard

/-- THE TIED CARD OF 'laws.FnExactCsvRead'. -/
def fnExactCsvReadCard : Claim7 := { stood := { row := fnExactCsvReadRow, standIns := [], harness := (true, "d5d61c5a6e6b6b5da75402d5adab09312dfb15e54419701396ea2e8c595acc9a"), looks := false }, kinds := [], alts := [], laidByText := true, laidKinds := [.data, .pinned], laidTests := true, laidLooks := .later }
def FnExactCsvReadCardSaid : Prop := Claim7.holds Tryd.pinned (.plain (OpenSpec.ofChange fnExactCsvReadSpec)) fnExactCsvReadCard

/-- THE TIED CARD OF 'laws.FnExactCsvText'. -/
def fnExactCsvTextCard : Claim7 := { stood := { row := fnExactCsvTextRow, standIns := [], harness := (true, "d5d61c5a6e6b6b5da75402d5adab09312dfb15e54419701396ea2e8c595acc9a"), looks := false }, kinds := [], alts := [], laidByText := true, laidKinds := [.data, .pinned], laidTests := true, laidLooks := .later }
def FnExactCsvTextCardSaid : Prop := Claim7.holds Tryd.pinned (.plain (OpenSpec.ofChange fnExactCsvTextSpec)) fnExactCsvTextCard

/-- THE TIED CARD OF 'laws.FnExactRowsOk'. -/
def fnExactRowsOkCard : Claim7 := { stood := { row := fnExactRowsOkRow, standIns := [], harness := (true, "d5d61c5a6e6b6b5da75402d5adab09312dfb15e54419701396ea2e8c595acc9a"), looks := false }, kinds := [], alts := [], laidByText := true, laidKinds := [.data, .pinned], laidTests := true, laidLooks := .later }
def FnExactRowsOkCardSaid : Prop := Claim7.holds Tryd.pinned (.plain (OpenSpec.ofChange fnExactRowsOkSpec)) fnExactRowsOkCard

/-- THE SECOND FORM's CARD OF 'laws.FnCsvBack'. -/
def fnCsvBackUptoCard : Claim7 := { stood := { row := fnCsvBackUptoRow, standIns := [], harness := (true, "d5d61c5a6e6b6b5da75402d5adab09312dfb15e54419701396ea2e8c595acc9a"), looks := false }, kinds := [], alts := [], laidByText := true, laidKinds := [.data, .pinned], laidTests := true, laidLooks := .later }
def FnCsvBackUptoCardSaid : Prop := Claim7.holds Tryd.pinned (.plain (OpenSpec.upto fnCsvBackSpec)) fnCsvBackUptoCard

/-- THE SECOND FORM's CARD OF 'laws.FnCsvOnce'. -/
def fnCsvOnceUptoCard : Claim7 := { stood := { row := fnCsvOnceUptoRow, standIns := [], harness := (true, "d5d61c5a6e6b6b5da75402d5adab09312dfb15e54419701396ea2e8c595acc9a"), looks := false }, kinds := [], alts := [], laidByText := true, laidKinds := [.data, .pinned], laidTests := true, laidLooks := .later }
def FnCsvOnceUptoCardSaid : Prop := Claim7.holds Tryd.pinned (.plain (OpenSpec.upto fnCsvOnceSpec)) fnCsvOnceUptoCard

/-- THE SECOND FORM's CARD OF 'laws.FnExactCsvRead'. -/
def fnExactCsvReadUptoCard : Claim7 := { stood := { row := fnExactCsvReadUptoRow, standIns := [], harness := (true, "d5d61c5a6e6b6b5da75402d5adab09312dfb15e54419701396ea2e8c595acc9a"), looks := false }, kinds := [], alts := [], laidByText := true, laidKinds := [.data, .pinned], laidTests := true, laidLooks := .later }
def FnExactCsvReadUptoCardSaid : Prop := Claim7.holds Tryd.pinned (.plain (OpenSpec.upto fnExactCsvReadSpec)) fnExactCsvReadUptoCard

/-- THE SECOND FORM's CARD OF 'laws.FnExactCsvText'. -/
def fnExactCsvTextUptoCard : Claim7 := { stood := { row := fnExactCsvTextUptoRow, standIns := [], harness := (true, "d5d61c5a6e6b6b5da75402d5adab09312dfb15e54419701396ea2e8c595acc9a"), looks := false }, kinds := [], alts := [], laidByText := true, laidKinds := [.data, .pinned], laidTests := true, laidLooks := .later }
def FnExactCsvTextUptoCardSaid : Prop := Claim7.holds Tryd.pinned (.plain (OpenSpec.upto fnExactCsvTextSpec)) fnExactCsvTextUptoCard

/-- THE SECOND FORM's CARD OF 'laws.FnExactRowsOk'. -/
def fnExactRowsOkUptoCard : Claim7 := { stood := { row := fnExactRowsOkUptoRow, standIns := [], harness := (true, "d5d61c5a6e6b6b5da75402d5adab09312dfb15e54419701396ea2e8c595acc9a"), looks := false }, kinds := [], alts := [], laidByText := true, laidKinds := [.data, .pinned], laidTests := true, laidLooks := .later }
def FnExactRowsOkUptoCardSaid : Prop := Claim7.holds Tryd.pinned (.plain (OpenSpec.upto fnExactRowsOkSpec)) fnExactRowsOkUptoCard
end Rows
end Go.Proofs.YtjklnfcoaakkgaaDoor
