/-
  DERIVED. GIVEN WITH THE SEED: THE CARDS: each row of YtlhdolcadlabpaaDoorRows.lean that lists a variable, with what it lists TIED to the program's text (the seventh form; the later family's looks); each row that meets fmt, with fmt's text TOLD by the authors' own Lean function (tested against real Go, not proved from fmt's source: count such statements apart). THE CARD IS WHAT COUNTS. Prove the row's statement (the work); the ties are given (YtlhdolcadlabpaaDoorTie.lean); close each card by the builder's one call (the guide's Derived/Test/ToyasCard.lean, 'card_holds'). Laid BY PROGRAM, IN A SANDBOX (cutbox-door.mjs). By AI agents, Wed Nov 11 2026. No macro, syntax, notation, axiom, sorry.
-/
import Derived.Test.YtlhdolcadlabpaaDoorRows
import GoSem.ClaimSeven
namespace Go.Proofs.YtlhdolcadlabpaaDoor
namespace Rows

/-- THE TIED CARD OF 'laws.FnLooksLike'. -/
def fnLooksLikeCard : Claim7 := { stood := { row := fnLooksLikeRow, standIns := [], harness := (true, "afc72ce065d2f119c01aef0480f1853965bc111a7b6a4103f08fa3377ef0b9ea"), looks := false }, kinds := [], alts := [], laidByText := true, laidKinds := [.data, .pinned], laidTests := true, laidLooks := .later }
def FnLooksLikeCardSaid : Prop := Claim7.holds Tryd.pinned (.plain (OpenSpec.ofChange fnLooksLikeSpec)) fnLooksLikeCard

/-- THE TIED CARD OF 'laws.FnExactPrefix'. -/
def fnExactPrefixCard : Claim7 := { stood := { row := fnExactPrefixRow, standIns := [], harness := (true, "afc72ce065d2f119c01aef0480f1853965bc111a7b6a4103f08fa3377ef0b9ea"), looks := false }, kinds := [], alts := [], laidByText := true, laidKinds := [.data, .pinned], laidTests := true, laidLooks := .later }
def FnExactPrefixCardSaid : Prop := Claim7.holds Tryd.pinned (.plain (OpenSpec.ofChange fnExactPrefixSpec)) fnExactPrefixCard

/-- THE TIED CARD OF 'laws.FnExactLooks'. -/
def fnExactLooksCard : Claim7 := { stood := { row := fnExactLooksRow, standIns := [], harness := (true, "afc72ce065d2f119c01aef0480f1853965bc111a7b6a4103f08fa3377ef0b9ea"), looks := false }, kinds := [], alts := [], laidByText := true, laidKinds := [.data, .pinned], laidTests := true, laidLooks := .later }
def FnExactLooksCardSaid : Prop := Claim7.holds Tryd.pinned (.plain (OpenSpec.ofChange fnExactLooksSpec)) fnExactLooksCard

/-- THE TIED CARD OF 'laws.FnExactPrefixEnd'. -/
def fnExactPrefixEndCard : Claim7 := { stood := { row := fnExactPrefixEndRow, standIns := [], harness := (true, "afc72ce065d2f119c01aef0480f1853965bc111a7b6a4103f08fa3377ef0b9ea"), looks := false }, kinds := [], alts := [], laidByText := true, laidKinds := [.data, .pinned], laidTests := true, laidLooks := .later }
def FnExactPrefixEndCardSaid : Prop := Claim7.holds Tryd.pinned (.plain (OpenSpec.ofChange fnExactPrefixEndSpec)) fnExactPrefixEndCard

/-- THE SECOND FORM's CARD OF 'laws.FnLooksLike'. -/
def fnLooksLikeUptoCard : Claim7 := { stood := { row := fnLooksLikeUptoRow, standIns := [], harness := (true, "afc72ce065d2f119c01aef0480f1853965bc111a7b6a4103f08fa3377ef0b9ea"), looks := false }, kinds := [], alts := [], laidByText := true, laidKinds := [.data, .pinned], laidTests := true, laidLooks := .later }
def FnLooksLikeUptoCardSaid : Prop := Claim7.holds Tryd.pinned (.plain (OpenSpec.upto fnLooksLikeSpec)) fnLooksLikeUptoCard

/-- THE SECOND FORM's CARD OF 'laws.FnExactPrefix'. -/
def fnExactPrefixUptoCard : Claim7 := { stood := { row := fnExactPrefixUptoRow, standIns := [], harness := (true, "afc72ce065d2f119c01aef0480f1853965bc111a7b6a4103f08fa3377ef0b9ea"), looks := false }, kinds := [], alts := [], laidByText := true, laidKinds := [.data, .pinned], laidTests := true, laidLooks := .later }
def FnExactPrefixUptoCardSaid : Prop := Claim7.holds Tryd.pinned (.plain (OpenSpec.upto fnExactPrefixSpec)) fnExactPrefixUptoCard

/-- THE SECOND FORM's CARD OF 'laws.FnExactLooks'. -/
def fnExactLooksUptoCard : Claim7 := { stood := { row := fnExactLooksUptoRow, standIns := [], harness := (true, "afc72ce065d2f119c01aef0480f1853965bc111a7b6a4103f08fa3377ef0b9ea"), looks := false }, kinds := [], alts := [], laidByText := true, laidKinds := [.data, .pinned], laidTests := true, laidLooks := .later }
def FnExactLooksUptoCardSaid : Prop := Claim7.holds Tryd.pinned (.plain (OpenSpec.upto fnExactLooksSpec)) fnExactLooksUptoCard

/-- THE SECOND FORM's CARD OF 'laws.FnExactPrefixEnd'. -/
def fnExactPrefixEndUptoCard : Claim7 := { stood := { row := fnExactPrefixEndUptoRow, standIns := [], harness := (true, "afc72ce065d2f119c01aef0480f1853965bc111a7b6a4103f08fa3377ef0b9ea"), looks := false }, kinds := [], alts := [], laidByText := true, laidKinds := [.data, .pinned], laidTests := true, laidLooks := .later }
def FnExactPrefixEndUptoCardSaid : Prop := Claim7.holds Tryd.pinned (.plain (OpenSpec.upto fnExactPrefixEndSpec)) fnExactPrefixEndUptoCard
end Rows
end Go.Proofs.YtlhdolcadlabpaaDoor
