/-
  DERIVED. GIVEN WITH THE SEED: THE CARDS: each row of YtdkjfppjbkdelaaGreatDoorRows.lean that lists a variable, with what it lists TIED to the program's text (the seventh form; the later family's looks); each row that meets fmt, with fmt's text TOLD by the authors' own Lean function (tested against real Go, not proved from fmt's source: count such statements apart). THE CARD IS WHAT COUNTS. Prove the row's statement (the work); the ties are given (YtdkjfppjbkdelaaGreatDoorTie.lean); close each card by the builder's one call (the guide's Derived/Test/ToyasCard.lean, 'card_holds'). Laid BY PROGRAM, IN A SANDBOX (cutbox-door.mjs). By AI agents, Wed Nov 11 2026. No macro, syntax, notation, axiom, sorry.
-/
import Derived.Test.YtdkjfppjbkdelaaGreatDoorRows
import GoSem.ClaimSeven
namespace Go.Proofs.YtdkjfppjbkdelaaGreatDoor
namespace Rows

/-- THE TIED CARD OF 'laws.FnRxBack'. -/
def fnRxBackCard : Claim7 := { stood := { row := fnRxBackRow, standIns := [], harness := (true, "5a925d7146ea2ca016bfe8a3210c98e54a280bc7c0e553fa421599926a794a33"), looks := true }, kinds := [], alts := [], laidByText := true, laidKinds := [.data, .data, .data, .data, .pinned], laidTests := true, laidLooks := .later }
def FnRxBackCardSaid : Prop := Claim7.holds Tryz.pinned (.plain (OpenSpec.ofChange fnRxBackSpec)) fnRxBackCard

/-- THE TIED CARD OF 'laws.FnRxEither'. -/
def fnRxEitherCard : Claim7 := { stood := { row := fnRxEitherRow, standIns := [], harness := (true, "5a925d7146ea2ca016bfe8a3210c98e54a280bc7c0e553fa421599926a794a33"), looks := true }, kinds := [], alts := [], laidByText := true, laidKinds := [.data, .data, .data, .data, .pinned], laidTests := true, laidLooks := .later }
def FnRxEitherCardSaid : Prop := Claim7.holds Tryz.pinned (.plain (OpenSpec.ofChange fnRxEitherSpec)) fnRxEitherCard

/-- THE TIED CARD OF 'laws.FnRxLongest'. -/
def fnRxLongestCard : Claim7 := { stood := { row := fnRxLongestRow, standIns := [], harness := (true, "5a925d7146ea2ca016bfe8a3210c98e54a280bc7c0e553fa421599926a794a33"), looks := true }, kinds := [], alts := [], laidByText := true, laidKinds := [.data, .data, .data, .data, .pinned], laidTests := true, laidLooks := .later }
def FnRxLongestCardSaid : Prop := Claim7.holds Tryz.pinned (.plain (OpenSpec.ofChange fnRxLongestSpec)) fnRxLongestCard

/-- THE TIED CARD OF 'laws.FnSplitJoined'. -/
def fnSplitJoinedCard : Claim7 := { stood := { row := fnSplitJoinedRow, standIns := [], harness := (true, "5a925d7146ea2ca016bfe8a3210c98e54a280bc7c0e553fa421599926a794a33"), looks := true }, kinds := [], alts := [], laidByText := true, laidKinds := [.data, .pinned], laidTests := true, laidLooks := .later }
def FnSplitJoinedCardSaid : Prop := Claim7.holds Tryz.pinned (.plain (OpenSpec.ofChange fnSplitJoinedSpec)) fnSplitJoinedCard

/-- THE TIED CARD OF 'laws.FnExactRxSound'. -/
def fnExactRxSoundCard : Claim7 := { stood := { row := fnExactRxSoundRow, standIns := [], harness := (true, "5a925d7146ea2ca016bfe8a3210c98e54a280bc7c0e553fa421599926a794a33"), looks := true }, kinds := [], alts := [], laidByText := true, laidKinds := [.data, .data, .data, .data, .pinned], laidTests := true, laidLooks := .later }
def FnExactRxSoundCardSaid : Prop := Claim7.holds Tryz.pinned (.plain (OpenSpec.ofChange fnExactRxSoundSpec)) fnExactRxSoundCard

/-- THE TIED CARD OF 'laws.FnExactRxMatch'. -/
def fnExactRxMatchCard : Claim7 := { stood := { row := fnExactRxMatchRow, standIns := [], harness := (true, "5a925d7146ea2ca016bfe8a3210c98e54a280bc7c0e553fa421599926a794a33"), looks := true }, kinds := [], alts := [], laidByText := true, laidKinds := [.data, .data, .data, .data, .pinned], laidTests := true, laidLooks := .later }
def FnExactRxMatchCardSaid : Prop := Claim7.holds Tryz.pinned (.plain (OpenSpec.ofChange fnExactRxMatchSpec)) fnExactRxMatchCard

/-- THE TIED CARD OF 'laws.FnExactRxFind'. -/
def fnExactRxFindCard : Claim7 := { stood := { row := fnExactRxFindRow, standIns := [], harness := (true, "5a925d7146ea2ca016bfe8a3210c98e54a280bc7c0e553fa421599926a794a33"), looks := true }, kinds := [], alts := [], laidByText := true, laidKinds := [.data, .data, .data, .data, .pinned], laidTests := true, laidLooks := .later }
def FnExactRxFindCardSaid : Prop := Claim7.holds Tryz.pinned (.plain (OpenSpec.ofChange fnExactRxFindSpec)) fnExactRxFindCard

/-- THE TIED CARD OF 'laws.FnExactRxFits'. -/
def fnExactRxFitsCard : Claim7 := { stood := { row := fnExactRxFitsRow, standIns := [], harness := (true, "5a925d7146ea2ca016bfe8a3210c98e54a280bc7c0e553fa421599926a794a33"), looks := true }, kinds := [], alts := [], laidByText := true, laidKinds := [.data, .data, .data, .data, .pinned], laidTests := true, laidLooks := .later }
def FnExactRxFitsCardSaid : Prop := Claim7.holds Tryz.pinned (.plain (OpenSpec.ofChange fnExactRxFitsSpec)) fnExactRxFitsCard

/-- THE TIED CARD OF 'laws.FnExactNfaOf'. -/
def fnExactNfaOfCard : Claim7 := { stood := { row := fnExactNfaOfRow, standIns := [], harness := (true, "5a925d7146ea2ca016bfe8a3210c98e54a280bc7c0e553fa421599926a794a33"), looks := true }, kinds := [], alts := [], laidByText := true, laidKinds := [.data, .data, .data, .data, .pinned], laidTests := true, laidLooks := .later }
def FnExactNfaOfCardSaid : Prop := Claim7.holds Tryz.pinned (.plain (OpenSpec.ofChange fnExactNfaOfSpec)) fnExactNfaOfCard

/-- THE SECOND FORM's CARD OF 'laws.FnRxBack'. -/
def fnRxBackUptoCard : Claim7 := { stood := { row := fnRxBackUptoRow, standIns := [], harness := (true, "5a925d7146ea2ca016bfe8a3210c98e54a280bc7c0e553fa421599926a794a33"), looks := true }, kinds := [], alts := [], laidByText := true, laidKinds := [.data, .data, .data, .data, .pinned], laidTests := true, laidLooks := .later }
def FnRxBackUptoCardSaid : Prop := Claim7.holds Tryz.pinned (.plain (OpenSpec.upto fnRxBackSpec)) fnRxBackUptoCard

/-- THE SECOND FORM's CARD OF 'laws.FnRxEither'. -/
def fnRxEitherUptoCard : Claim7 := { stood := { row := fnRxEitherUptoRow, standIns := [], harness := (true, "5a925d7146ea2ca016bfe8a3210c98e54a280bc7c0e553fa421599926a794a33"), looks := true }, kinds := [], alts := [], laidByText := true, laidKinds := [.data, .data, .data, .data, .pinned], laidTests := true, laidLooks := .later }
def FnRxEitherUptoCardSaid : Prop := Claim7.holds Tryz.pinned (.plain (OpenSpec.upto fnRxEitherSpec)) fnRxEitherUptoCard

/-- THE SECOND FORM's CARD OF 'laws.FnRxLongest'. -/
def fnRxLongestUptoCard : Claim7 := { stood := { row := fnRxLongestUptoRow, standIns := [], harness := (true, "5a925d7146ea2ca016bfe8a3210c98e54a280bc7c0e553fa421599926a794a33"), looks := true }, kinds := [], alts := [], laidByText := true, laidKinds := [.data, .data, .data, .data, .pinned], laidTests := true, laidLooks := .later }
def FnRxLongestUptoCardSaid : Prop := Claim7.holds Tryz.pinned (.plain (OpenSpec.upto fnRxLongestSpec)) fnRxLongestUptoCard

/-- THE SECOND FORM's CARD OF 'laws.FnSplitJoined'. -/
def fnSplitJoinedUptoCard : Claim7 := { stood := { row := fnSplitJoinedUptoRow, standIns := [], harness := (true, "5a925d7146ea2ca016bfe8a3210c98e54a280bc7c0e553fa421599926a794a33"), looks := true }, kinds := [], alts := [], laidByText := true, laidKinds := [.data, .pinned], laidTests := true, laidLooks := .later }
def FnSplitJoinedUptoCardSaid : Prop := Claim7.holds Tryz.pinned (.plain (OpenSpec.upto fnSplitJoinedSpec)) fnSplitJoinedUptoCard

/-- THE SECOND FORM's CARD OF 'laws.FnExactRxSound'. -/
def fnExactRxSoundUptoCard : Claim7 := { stood := { row := fnExactRxSoundUptoRow, standIns := [], harness := (true, "5a925d7146ea2ca016bfe8a3210c98e54a280bc7c0e553fa421599926a794a33"), looks := true }, kinds := [], alts := [], laidByText := true, laidKinds := [.data, .data, .data, .data, .pinned], laidTests := true, laidLooks := .later }
def FnExactRxSoundUptoCardSaid : Prop := Claim7.holds Tryz.pinned (.plain (OpenSpec.upto fnExactRxSoundSpec)) fnExactRxSoundUptoCard

/-- THE SECOND FORM's CARD OF 'laws.FnExactRxMatch'. -/
def fnExactRxMatchUptoCard : Claim7 := { stood := { row := fnExactRxMatchUptoRow, standIns := [], harness := (true, "5a925d7146ea2ca016bfe8a3210c98e54a280bc7c0e553fa421599926a794a33"), looks := true }, kinds := [], alts := [], laidByText := true, laidKinds := [.data, .data, .data, .data, .pinned], laidTests := true, laidLooks := .later }
def FnExactRxMatchUptoCardSaid : Prop := Claim7.holds Tryz.pinned (.plain (OpenSpec.upto fnExactRxMatchSpec)) fnExactRxMatchUptoCard

/-- THE SECOND FORM's CARD OF 'laws.FnExactRxFind'. -/
def fnExactRxFindUptoCard : Claim7 := { stood := { row := fnExactRxFindUptoRow, standIns := [], harness := (true, "5a925d7146ea2ca016bfe8a3210c98e54a280bc7c0e553fa421599926a794a33"), looks := true }, kinds := [], alts := [], laidByText := true, laidKinds := [.data, .data, .data, .data, .pinned], laidTests := true, laidLooks := .later }
def FnExactRxFindUptoCardSaid : Prop := Claim7.holds Tryz.pinned (.plain (OpenSpec.upto fnExactRxFindSpec)) fnExactRxFindUptoCard

/-- THE SECOND FORM's CARD OF 'laws.FnExactRxFits'. -/
def fnExactRxFitsUptoCard : Claim7 := { stood := { row := fnExactRxFitsUptoRow, standIns := [], harness := (true, "5a925d7146ea2ca016bfe8a3210c98e54a280bc7c0e553fa421599926a794a33"), looks := true }, kinds := [], alts := [], laidByText := true, laidKinds := [.data, .data, .data, .data, .pinned], laidTests := true, laidLooks := .later }
def FnExactRxFitsUptoCardSaid : Prop := Claim7.holds Tryz.pinned (.plain (OpenSpec.upto fnExactRxFitsSpec)) fnExactRxFitsUptoCard

/-- THE SECOND FORM's CARD OF 'laws.FnExactNfaOf'. -/
def fnExactNfaOfUptoCard : Claim7 := { stood := { row := fnExactNfaOfUptoRow, standIns := [], harness := (true, "5a925d7146ea2ca016bfe8a3210c98e54a280bc7c0e553fa421599926a794a33"), looks := true }, kinds := [], alts := [], laidByText := true, laidKinds := [.data, .data, .data, .data, .pinned], laidTests := true, laidLooks := .later }
def FnExactNfaOfUptoCardSaid : Prop := Claim7.holds Tryz.pinned (.plain (OpenSpec.upto fnExactNfaOfSpec)) fnExactNfaOfUptoCard
end Rows
end Go.Proofs.YtdkjfppjbkdelaaGreatDoor
