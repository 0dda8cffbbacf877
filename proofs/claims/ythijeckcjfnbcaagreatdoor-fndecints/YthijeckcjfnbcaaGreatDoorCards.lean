/-
  DERIVED. GIVEN WITH THE SEED: THE CARDS: each row of YthijeckcjfnbcaaGreatDoorRows.lean that lists a variable, with what it lists TIED to the program's text (the seventh form; the later family's looks); each row that meets fmt, with fmt's text TOLD by the authors' own Lean function (tested against real Go, not proved from fmt's source: count such statements apart). THE CARD IS WHAT COUNTS. Prove the row's statement (the work); the ties are given (YthijeckcjfnbcaaGreatDoorTie.lean); close each card by the builder's one call (the guide's Derived/Test/ToyasCard.lean, 'card_holds'). Laid BY PROGRAM, IN A SANDBOX (cutbox-door.mjs). By AI agents, Wed Nov 11 2026. No macro, syntax, notation, axiom, sorry.
-/
import Derived.Test.YthijeckcjfnbcaaGreatDoorRows
import GoSem.ClaimSeven
namespace Go.Proofs.YthijeckcjfnbcaaGreatDoor
namespace Rows

/-- THE TIED CARD OF 'laws.FnDecSums'. -/
def fnDecSumsCard : Claim7 := { stood := { row := fnDecSumsRow, standIns := [], harness := (true, "a9c85621e7b03ac73e62eacb70a1fa520bfe7dfb057c33d40dc1b49c89e2fe51"), looks := true }, kinds := [], alts := [], laidByText := true, laidKinds := [.data, .pinned], laidTests := true, laidLooks := .later }
def FnDecSumsCardSaid : Prop := Claim7.holds Tryz.pinned (.plain (OpenSpec.ofChange fnDecSumsSpec)) fnDecSumsCard

/-- THE TIED CARD OF 'laws.FnDecInts'. -/
def fnDecIntsCard : Claim7 := { stood := { row := fnDecIntsRow, standIns := [], harness := (true, "a9c85621e7b03ac73e62eacb70a1fa520bfe7dfb057c33d40dc1b49c89e2fe51"), looks := true }, kinds := [], alts := [], laidByText := true, laidKinds := [.data, .data, .data, .data, .sentinel, .sentinel, .pinned], laidTests := true, laidLooks := .later }
def FnDecIntsCardSaid : Prop := Claim7.holds Tryz.pinned (.plain (OpenSpec.ofChange fnDecIntsSpec)) fnDecIntsCard

/-- THE SECOND FORM's CARD OF 'laws.FnDecSums'. -/
def fnDecSumsUptoCard : Claim7 := { stood := { row := fnDecSumsUptoRow, standIns := [], harness := (true, "a9c85621e7b03ac73e62eacb70a1fa520bfe7dfb057c33d40dc1b49c89e2fe51"), looks := true }, kinds := [], alts := [], laidByText := true, laidKinds := [.data, .pinned], laidTests := true, laidLooks := .later }
def FnDecSumsUptoCardSaid : Prop := Claim7.holds Tryz.pinned (.plain (OpenSpec.upto fnDecSumsSpec)) fnDecSumsUptoCard

/-- THE SECOND FORM's CARD OF 'laws.FnDecInts'. -/
def fnDecIntsUptoCard : Claim7 := { stood := { row := fnDecIntsUptoRow, standIns := [], harness := (true, "a9c85621e7b03ac73e62eacb70a1fa520bfe7dfb057c33d40dc1b49c89e2fe51"), looks := true }, kinds := [], alts := [], laidByText := true, laidKinds := [.data, .data, .data, .data, .sentinel, .sentinel, .pinned], laidTests := true, laidLooks := .later }
def FnDecIntsUptoCardSaid : Prop := Claim7.holds Tryz.pinned (.plain (OpenSpec.upto fnDecIntsSpec)) fnDecIntsUptoCard
end Rows
end Go.Proofs.YthijeckcjfnbcaaGreatDoor
