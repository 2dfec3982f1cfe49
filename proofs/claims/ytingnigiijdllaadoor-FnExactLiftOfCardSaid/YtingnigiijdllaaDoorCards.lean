/-
  DERIVED. GIVEN WITH THE SEED: THE CARDS: each row of YtingnigiijdllaaDoorRows.lean that lists a variable, with what it lists TIED to the program's text (the seventh form; the later family's looks); each row that meets fmt, with fmt's text TOLD by the authors' own Lean function (tested against real Go, not proved from fmt's source: count such statements apart). THE CARD IS WHAT COUNTS. Prove the row's statement (the work); the ties are given (YtingnigiijdllaaDoorTie.lean); close each card by the builder's one call (the guide's Derived/Test/ToyasCard.lean, 'card_holds'). Laid BY PROGRAM, IN A SANDBOX (cutbox-door.mjs). By AI agents, Wed Nov 11 2026. No macro, syntax, notation, axiom, sorry.
-/
import Derived.Test.YtingnigiijdllaaDoorRows
import GoSem.ClaimSeven
namespace Go.Proofs.YtingnigiijdllaaDoor
namespace Rows

/-- THE TIED CARD OF 'laws.FnExactIsResult'. -/
def fnExactIsResultCard : Claim7 := { stood := { row := fnExactIsResultRow, standIns := [], harness := (true, "8f073518168a7cb0f37f443ed8ae9479ec516bc4ffe5b8b198bd93a49b94b87a"), looks := false }, kinds := [], alts := [], laidByText := true, laidKinds := [.data], laidTests := true, laidLooks := .later }
def FnExactIsResultCardSaid : Prop := Claim7.holds Tryd.pinned (.plain (OpenSpec.ofChange fnExactIsResultSpec)) fnExactIsResultCard

/-- THE TIED CARD OF 'laws.FnExactIsOpen'. -/
def fnExactIsOpenCard : Claim7 := { stood := { row := fnExactIsOpenRow, standIns := [], harness := (true, "8f073518168a7cb0f37f443ed8ae9479ec516bc4ffe5b8b198bd93a49b94b87a"), looks := false }, kinds := [], alts := [], laidByText := true, laidKinds := [.data], laidTests := true, laidLooks := .later }
def FnExactIsOpenCardSaid : Prop := Claim7.holds Tryd.pinned (.plain (OpenSpec.ofChange fnExactIsOpenSpec)) fnExactIsOpenCard

/-- THE TIED CARD OF 'laws.FnExactCodePart'. -/
def fnExactCodePartCard : Claim7 := { stood := { row := fnExactCodePartRow, standIns := [], harness := (true, "8f073518168a7cb0f37f443ed8ae9479ec516bc4ffe5b8b198bd93a49b94b87a"), looks := false }, kinds := [], alts := [], laidByText := true, laidKinds := [.data], laidTests := true, laidLooks := .later }
def FnExactCodePartCardSaid : Prop := Claim7.holds Tryd.pinned (.plain (OpenSpec.ofChange fnExactCodePartSpec)) fnExactCodePartCard

/-- THE TIED CARD OF 'laws.FnExactLiftOf'. -/
def fnExactLiftOfCard : Claim7 := { stood := { row := fnExactLiftOfRow, standIns := [], harness := (true, "8f073518168a7cb0f37f443ed8ae9479ec516bc4ffe5b8b198bd93a49b94b87a"), looks := false }, kinds := [], alts := [], laidByText := true, laidKinds := [.data], laidTests := true, laidLooks := .later }
def FnExactLiftOfCardSaid : Prop := Claim7.holds Tryd.pinned (.plain (OpenSpec.ofChange fnExactLiftOfSpec)) fnExactLiftOfCard

/-- THE TIED CARD OF 'laws.FnExactKindName'. -/
def fnExactKindNameCard : Claim7 := { stood := { row := fnExactKindNameRow, standIns := [], harness := (true, "8f073518168a7cb0f37f443ed8ae9479ec516bc4ffe5b8b198bd93a49b94b87a"), looks := false }, kinds := [], alts := [], laidByText := true, laidKinds := [.data], laidTests := true, laidLooks := .later }
def FnExactKindNameCardSaid : Prop := Claim7.holds Tryd.pinned (.plain (OpenSpec.ofChange fnExactKindNameSpec)) fnExactKindNameCard

/-- THE SECOND FORM's CARD OF 'laws.FnExactIsResult'. -/
def fnExactIsResultUptoCard : Claim7 := { stood := { row := fnExactIsResultUptoRow, standIns := [], harness := (true, "8f073518168a7cb0f37f443ed8ae9479ec516bc4ffe5b8b198bd93a49b94b87a"), looks := false }, kinds := [], alts := [], laidByText := true, laidKinds := [.data], laidTests := true, laidLooks := .later }
def FnExactIsResultUptoCardSaid : Prop := Claim7.holds Tryd.pinned (.plain (OpenSpec.upto fnExactIsResultSpec)) fnExactIsResultUptoCard

/-- THE SECOND FORM's CARD OF 'laws.FnExactIsOpen'. -/
def fnExactIsOpenUptoCard : Claim7 := { stood := { row := fnExactIsOpenUptoRow, standIns := [], harness := (true, "8f073518168a7cb0f37f443ed8ae9479ec516bc4ffe5b8b198bd93a49b94b87a"), looks := false }, kinds := [], alts := [], laidByText := true, laidKinds := [.data], laidTests := true, laidLooks := .later }
def FnExactIsOpenUptoCardSaid : Prop := Claim7.holds Tryd.pinned (.plain (OpenSpec.upto fnExactIsOpenSpec)) fnExactIsOpenUptoCard

/-- THE SECOND FORM's CARD OF 'laws.FnExactCodePart'. -/
def fnExactCodePartUptoCard : Claim7 := { stood := { row := fnExactCodePartUptoRow, standIns := [], harness := (true, "8f073518168a7cb0f37f443ed8ae9479ec516bc4ffe5b8b198bd93a49b94b87a"), looks := false }, kinds := [], alts := [], laidByText := true, laidKinds := [.data], laidTests := true, laidLooks := .later }
def FnExactCodePartUptoCardSaid : Prop := Claim7.holds Tryd.pinned (.plain (OpenSpec.upto fnExactCodePartSpec)) fnExactCodePartUptoCard

/-- THE SECOND FORM's CARD OF 'laws.FnExactLiftOf'. -/
def fnExactLiftOfUptoCard : Claim7 := { stood := { row := fnExactLiftOfUptoRow, standIns := [], harness := (true, "8f073518168a7cb0f37f443ed8ae9479ec516bc4ffe5b8b198bd93a49b94b87a"), looks := false }, kinds := [], alts := [], laidByText := true, laidKinds := [.data], laidTests := true, laidLooks := .later }
def FnExactLiftOfUptoCardSaid : Prop := Claim7.holds Tryd.pinned (.plain (OpenSpec.upto fnExactLiftOfSpec)) fnExactLiftOfUptoCard

/-- THE SECOND FORM's CARD OF 'laws.FnExactKindName'. -/
def fnExactKindNameUptoCard : Claim7 := { stood := { row := fnExactKindNameUptoRow, standIns := [], harness := (true, "8f073518168a7cb0f37f443ed8ae9479ec516bc4ffe5b8b198bd93a49b94b87a"), looks := false }, kinds := [], alts := [], laidByText := true, laidKinds := [.data], laidTests := true, laidLooks := .later }
def FnExactKindNameUptoCardSaid : Prop := Claim7.holds Tryd.pinned (.plain (OpenSpec.upto fnExactKindNameSpec)) fnExactKindNameUptoCard
end Rows
end Go.Proofs.YtingnigiijdllaaDoor
