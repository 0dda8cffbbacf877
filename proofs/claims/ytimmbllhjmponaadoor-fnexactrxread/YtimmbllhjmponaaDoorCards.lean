/-
  DERIVED. GIVEN WITH THE SEED: THE CARDS: each row of YtimmbllhjmponaaDoorRows.lean that lists a variable, with what it lists TIED to the program's text (the seventh form; the later family's looks); each row that meets fmt, with fmt's text TOLD by the authors' own Lean function (tested against real Go, not proved from fmt's source: count such statements apart). THE CARD IS WHAT COUNTS. Prove the row's statement (the work); the ties are given (YtimmbllhjmponaaDoorTie.lean); close each card by the builder's one call (the guide's Derived/Test/ToyasCard.lean, 'card_holds'). Laid BY PROGRAM, IN A SANDBOX (cutbox-door.mjs). By AI agents, Wed Nov 11 2026. No macro, syntax, notation, axiom, sorry.
-/
import Derived.Test.YtimmbllhjmponaaDoorRows
import GoSem.ClaimSeven
namespace Go.Proofs.YtimmbllhjmponaaDoor
namespace Rows

/-- THE TIED CARD OF 'laws.FnExactRxRead'. -/
def fnExactRxReadCard : Claim7 := { stood := { row := fnExactRxReadRow, standIns := [], harness := (true, "a65664227c26d0409ac80566d63107deefcabdfd75c30cb3d4e7e7a035871186"), looks := true }, kinds := [], alts := [], laidByText := true, laidKinds := [.data, .pinned], laidTests := true, laidLooks := .later }
def FnExactRxReadCardSaid : Prop := Claim7.holds Tryd.pinned (.plain (OpenSpec.ofChange fnExactRxReadSpec)) fnExactRxReadCard

/-- THE SECOND FORM's CARD OF 'laws.FnExactRxRead'. -/
def fnExactRxReadUptoCard : Claim7 := { stood := { row := fnExactRxReadUptoRow, standIns := [], harness := (true, "a65664227c26d0409ac80566d63107deefcabdfd75c30cb3d4e7e7a035871186"), looks := true }, kinds := [], alts := [], laidByText := true, laidKinds := [.data, .pinned], laidTests := true, laidLooks := .later }
def FnExactRxReadUptoCardSaid : Prop := Claim7.holds Tryd.pinned (.plain (OpenSpec.upto fnExactRxReadSpec)) fnExactRxReadUptoCard
end Rows
end Go.Proofs.YtimmbllhjmponaaDoor
