/-
  DERIVED. GIVEN WITH THE SEED: THE CARDS: each row of YtfeijijeohfpgaaDoorRows.lean that lists a variable, with what it lists TIED to the program's text (the seventh form; the later family's looks); each row that meets fmt, with fmt's text TOLD by the authors' own Lean function (tested against real Go, not proved from fmt's source: count such statements apart). THE CARD IS WHAT COUNTS. Prove the row's statement (the work); the ties are given (YtfeijijeohfpgaaDoorTie.lean); close each card by the builder's one call (the guide's Derived/Test/ToyasCard.lean, 'card_holds'). Laid BY PROGRAM, IN A SANDBOX (cutbox-door.mjs). By AI agents, Wed Nov 11 2026. No macro, syntax, notation, axiom, sorry.
-/
import Derived.Test.YtfeijijeohfpgaaDoorRows
import GoSem.ClaimSeven
namespace Go.Proofs.YtfeijijeohfpgaaDoor
namespace Rows

/-- THE TIED CARD OF 'laws.FnExactLevelsOk'. -/
def fnExactLevelsOkCard : Claim7 := { stood := { row := fnExactLevelsOkRow, standIns := [], harness := (true, "f044de6490d1888e8a8842e47544dac796bfab6fd953bcf4174227b09531fbb6"), looks := false }, kinds := [], alts := [], laidByText := true, laidKinds := [.data], laidTests := true, laidLooks := .later }
def FnExactLevelsOkCardSaid : Prop := Claim7.holds Tryd.pinned (.plain (OpenSpec.ofChange fnExactLevelsOkSpec)) fnExactLevelsOkCard

/-- THE TIED CARD OF 'laws.FnExactIsGenerated'. -/
def fnExactIsGeneratedCard : Claim7 := { stood := { row := fnExactIsGeneratedRow, standIns := [], harness := (true, "f044de6490d1888e8a8842e47544dac796bfab6fd953bcf4174227b09531fbb6"), looks := false }, kinds := [], alts := [], laidByText := true, laidKinds := [.data], laidTests := true, laidLooks := .later }
def FnExactIsGeneratedCardSaid : Prop := Claim7.holds Tryd.pinned (.plain (OpenSpec.ofChange fnExactIsGeneratedSpec)) fnExactIsGeneratedCard

/-- THE TIED CARD OF 'laws.FnExactHighestLevel'. -/
def fnExactHighestLevelCard : Claim7 := { stood := { row := fnExactHighestLevelRow, standIns := [], harness := (true, "f044de6490d1888e8a8842e47544dac796bfab6fd953bcf4174227b09531fbb6"), looks := false }, kinds := [], alts := [], laidByText := true, laidKinds := [.data], laidTests := true, laidLooks := .later }
def FnExactHighestLevelCardSaid : Prop := Claim7.holds Tryd.pinned (.plain (OpenSpec.ofChange fnExactHighestLevelSpec)) fnExactHighestLevelCard

/-- THE TIED CARD OF 'laws.FnExactIsResult'. -/
def fnExactIsResultCard : Claim7 := { stood := { row := fnExactIsResultRow, standIns := [], harness := (true, "f044de6490d1888e8a8842e47544dac796bfab6fd953bcf4174227b09531fbb6"), looks := false }, kinds := [], alts := [], laidByText := true, laidKinds := [.data], laidTests := true, laidLooks := .later }
def FnExactIsResultCardSaid : Prop := Claim7.holds Tryd.pinned (.plain (OpenSpec.ofChange fnExactIsResultSpec)) fnExactIsResultCard

/-- THE TIED CARD OF 'laws.FnExactIsOpen'. -/
def fnExactIsOpenCard : Claim7 := { stood := { row := fnExactIsOpenRow, standIns := [], harness := (true, "f044de6490d1888e8a8842e47544dac796bfab6fd953bcf4174227b09531fbb6"), looks := false }, kinds := [], alts := [], laidByText := true, laidKinds := [.data], laidTests := true, laidLooks := .later }
def FnExactIsOpenCardSaid : Prop := Claim7.holds Tryd.pinned (.plain (OpenSpec.ofChange fnExactIsOpenSpec)) fnExactIsOpenCard

/-- THE TIED CARD OF 'laws.FnExactCodePart'. -/
def fnExactCodePartCard : Claim7 := { stood := { row := fnExactCodePartRow, standIns := [], harness := (true, "f044de6490d1888e8a8842e47544dac796bfab6fd953bcf4174227b09531fbb6"), looks := false }, kinds := [], alts := [], laidByText := true, laidKinds := [.data], laidTests := true, laidLooks := .later }
def FnExactCodePartCardSaid : Prop := Claim7.holds Tryd.pinned (.plain (OpenSpec.ofChange fnExactCodePartSpec)) fnExactCodePartCard

/-- THE TIED CARD OF 'laws.FnExactRuleName'. -/
def fnExactRuleNameCard : Claim7 := { stood := { row := fnExactRuleNameRow, standIns := [], harness := (true, "f044de6490d1888e8a8842e47544dac796bfab6fd953bcf4174227b09531fbb6"), looks := false }, kinds := [], alts := [], laidByText := true, laidKinds := [.data], laidTests := true, laidLooks := .later }
def FnExactRuleNameCardSaid : Prop := Claim7.holds Tryd.pinned (.plain (OpenSpec.ofChange fnExactRuleNameSpec)) fnExactRuleNameCard

/-- THE SECOND FORM's CARD OF 'laws.FnExactLevelsOk'. -/
def fnExactLevelsOkUptoCard : Claim7 := { stood := { row := fnExactLevelsOkUptoRow, standIns := [], harness := (true, "f044de6490d1888e8a8842e47544dac796bfab6fd953bcf4174227b09531fbb6"), looks := false }, kinds := [], alts := [], laidByText := true, laidKinds := [.data], laidTests := true, laidLooks := .later }
def FnExactLevelsOkUptoCardSaid : Prop := Claim7.holds Tryd.pinned (.plain (OpenSpec.upto fnExactLevelsOkSpec)) fnExactLevelsOkUptoCard

/-- THE SECOND FORM's CARD OF 'laws.FnExactIsGenerated'. -/
def fnExactIsGeneratedUptoCard : Claim7 := { stood := { row := fnExactIsGeneratedUptoRow, standIns := [], harness := (true, "f044de6490d1888e8a8842e47544dac796bfab6fd953bcf4174227b09531fbb6"), looks := false }, kinds := [], alts := [], laidByText := true, laidKinds := [.data], laidTests := true, laidLooks := .later }
def FnExactIsGeneratedUptoCardSaid : Prop := Claim7.holds Tryd.pinned (.plain (OpenSpec.upto fnExactIsGeneratedSpec)) fnExactIsGeneratedUptoCard

/-- THE SECOND FORM's CARD OF 'laws.FnExactHighestLevel'. -/
def fnExactHighestLevelUptoCard : Claim7 := { stood := { row := fnExactHighestLevelUptoRow, standIns := [], harness := (true, "f044de6490d1888e8a8842e47544dac796bfab6fd953bcf4174227b09531fbb6"), looks := false }, kinds := [], alts := [], laidByText := true, laidKinds := [.data], laidTests := true, laidLooks := .later }
def FnExactHighestLevelUptoCardSaid : Prop := Claim7.holds Tryd.pinned (.plain (OpenSpec.upto fnExactHighestLevelSpec)) fnExactHighestLevelUptoCard

/-- THE SECOND FORM's CARD OF 'laws.FnExactIsResult'. -/
def fnExactIsResultUptoCard : Claim7 := { stood := { row := fnExactIsResultUptoRow, standIns := [], harness := (true, "f044de6490d1888e8a8842e47544dac796bfab6fd953bcf4174227b09531fbb6"), looks := false }, kinds := [], alts := [], laidByText := true, laidKinds := [.data], laidTests := true, laidLooks := .later }
def FnExactIsResultUptoCardSaid : Prop := Claim7.holds Tryd.pinned (.plain (OpenSpec.upto fnExactIsResultSpec)) fnExactIsResultUptoCard

/-- THE SECOND FORM's CARD OF 'laws.FnExactIsOpen'. -/
def fnExactIsOpenUptoCard : Claim7 := { stood := { row := fnExactIsOpenUptoRow, standIns := [], harness := (true, "f044de6490d1888e8a8842e47544dac796bfab6fd953bcf4174227b09531fbb6"), looks := false }, kinds := [], alts := [], laidByText := true, laidKinds := [.data], laidTests := true, laidLooks := .later }
def FnExactIsOpenUptoCardSaid : Prop := Claim7.holds Tryd.pinned (.plain (OpenSpec.upto fnExactIsOpenSpec)) fnExactIsOpenUptoCard

/-- THE SECOND FORM's CARD OF 'laws.FnExactCodePart'. -/
def fnExactCodePartUptoCard : Claim7 := { stood := { row := fnExactCodePartUptoRow, standIns := [], harness := (true, "f044de6490d1888e8a8842e47544dac796bfab6fd953bcf4174227b09531fbb6"), looks := false }, kinds := [], alts := [], laidByText := true, laidKinds := [.data], laidTests := true, laidLooks := .later }
def FnExactCodePartUptoCardSaid : Prop := Claim7.holds Tryd.pinned (.plain (OpenSpec.upto fnExactCodePartSpec)) fnExactCodePartUptoCard

/-- THE SECOND FORM's CARD OF 'laws.FnExactRuleName'. -/
def fnExactRuleNameUptoCard : Claim7 := { stood := { row := fnExactRuleNameUptoRow, standIns := [], harness := (true, "f044de6490d1888e8a8842e47544dac796bfab6fd953bcf4174227b09531fbb6"), looks := false }, kinds := [], alts := [], laidByText := true, laidKinds := [.data], laidTests := true, laidLooks := .later }
def FnExactRuleNameUptoCardSaid : Prop := Claim7.holds Tryd.pinned (.plain (OpenSpec.upto fnExactRuleNameSpec)) fnExactRuleNameUptoCard
end Rows
end Go.Proofs.YtfeijijeohfpgaaDoor
