/-
  DERIVED. GIVEN WITH THE SEED: THE CARDS: each row of YtpkmhojcccpolabDoorRows.lean that lists a variable, with what it lists TIED to the program's text (the seventh form; the later family's looks); each row that meets fmt, with fmt's text TOLD by the authors' own Lean function (tested against real Go, not proved from fmt's source: count such statements apart). THE CARD IS WHAT COUNTS. Prove the row's statement (the work); the ties are given (YtpkmhojcccpolabDoorTie.lean); close each card by the builder's one call (the guide's Derived/Test/ToyasCard.lean, 'card_holds'). Laid BY PROGRAM, IN A SANDBOX (cutbox-door.mjs). By AI agents, Wed Nov 11 2026. No macro, syntax, notation, axiom, sorry.
-/
import Derived.Test.YtpkmhojcccpolabDoorRows
import GoSem.ClaimSeven
namespace Go.Proofs.YtpkmhojcccpolabDoor
namespace Rows

/-- THE TIED CARD OF 'laws.FnExactDecInt'. -/
def fnExactDecIntCard : Claim7 := { stood := { row := fnExactDecIntRow, standIns := [], harness := (true, "295691b170348d5fe58ffbdedd18c8bfcba7f95c5aa4d95363d82142ea9f7dc7"), looks := false }, kinds := [], alts := [], laidByText := true, laidKinds := [.data, .pinned], laidTests := true, laidLooks := .later }
def FnExactDecIntCardSaid : Prop := Claim7.holds Tryd.pinned (.plain (OpenSpec.ofChange fnExactDecIntSpec)) fnExactDecIntCard

/-- THE SECOND FORM's CARD OF 'laws.FnExactDecInt'. -/
def fnExactDecIntUptoCard : Claim7 := { stood := { row := fnExactDecIntUptoRow, standIns := [], harness := (true, "295691b170348d5fe58ffbdedd18c8bfcba7f95c5aa4d95363d82142ea9f7dc7"), looks := false }, kinds := [], alts := [], laidByText := true, laidKinds := [.data, .pinned], laidTests := true, laidLooks := .later }
def FnExactDecIntUptoCardSaid : Prop := Claim7.holds Tryd.pinned (.plain (OpenSpec.upto fnExactDecIntSpec)) fnExactDecIntUptoCard
end Rows
end Go.Proofs.YtpkmhojcccpolabDoor
