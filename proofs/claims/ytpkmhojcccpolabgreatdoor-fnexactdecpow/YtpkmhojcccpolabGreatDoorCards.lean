/-
  DERIVED. GIVEN WITH THE SEED: THE CARDS: each row of YtpkmhojcccpolabGreatDoorRows.lean that lists a variable, with what it lists TIED to the program's text (the seventh form; the later family's looks); each row that meets fmt, with fmt's text TOLD by the authors' own Lean function (tested against real Go, not proved from fmt's source: count such statements apart). THE CARD IS WHAT COUNTS. Prove the row's statement (the work); the ties are given (YtpkmhojcccpolabGreatDoorTie.lean); close each card by the builder's one call (the guide's Derived/Test/ToyasCard.lean, 'card_holds'). Laid BY PROGRAM, IN A SANDBOX (cutbox-door.mjs). By AI agents, Wed Nov 11 2026. No macro, syntax, notation, axiom, sorry.
-/
import Derived.Test.YtpkmhojcccpolabGreatDoorRows
import GoSem.ClaimSeven
namespace Go.Proofs.YtpkmhojcccpolabGreatDoor
namespace Rows

/-- THE TIED CARD OF 'laws.FnExactDecPow'. -/
def fnExactDecPowCard : Claim7 := { stood := { row := fnExactDecPowRow, standIns := [], harness := (true, "56071f697b5f7b13ad633ef7eab41f3c2fdfee6380ed0e225fb8a30bd3640d17"), looks := false }, kinds := [], alts := [], laidByText := true, laidKinds := [.data, .data, .data, .data, .pinned], laidTests := true, laidLooks := .later }
def FnExactDecPowCardSaid : Prop := Claim7.holds Tryz.pinned (.plain (OpenSpec.ofChange fnExactDecPowSpec)) fnExactDecPowCard

/-- THE SECOND FORM's CARD OF 'laws.FnExactDecPow'. -/
def fnExactDecPowUptoCard : Claim7 := { stood := { row := fnExactDecPowUptoRow, standIns := [], harness := (true, "56071f697b5f7b13ad633ef7eab41f3c2fdfee6380ed0e225fb8a30bd3640d17"), looks := false }, kinds := [], alts := [], laidByText := true, laidKinds := [.data, .data, .data, .data, .pinned], laidTests := true, laidLooks := .later }
def FnExactDecPowUptoCardSaid : Prop := Claim7.holds Tryz.pinned (.plain (OpenSpec.upto fnExactDecPowSpec)) fnExactDecPowUptoCard
end Rows
end Go.Proofs.YtpkmhojcccpolabGreatDoor
