/-
  DERIVED. GIVEN WITH THE SEED: THE CARDS: each row of YtdfnjfelmfccjaaDoorRows.lean that lists a variable, with what it lists TIED to the program's text (the seventh form; the later family's looks); each row that meets fmt, with fmt's text TOLD by the authors' own Lean function (tested against real Go, not proved from fmt's source: count such statements apart). THE CARD IS WHAT COUNTS. Prove the row's statement (the work); the ties are given (YtdfnjfelmfccjaaDoorTie.lean); close each card by the builder's one call (the guide's Derived/Test/ToyasCard.lean, 'card_holds'). Laid BY PROGRAM, IN A SANDBOX (cutbox-door.mjs). By AI agents, Wed Nov 11 2026. No macro, syntax, notation, axiom, sorry.
-/
import Derived.Test.YtdfnjfelmfccjaaDoorRows
import GoSem.ClaimSeven
namespace Go.Proofs.YtdfnjfelmfccjaaDoor
namespace Rows

/-- THE TIED CARD OF 'laws.FnExactFreeVars'. -/
def fnExactFreeVarsCard : Claim7 := { stood := { row := fnExactFreeVarsRow, standIns := [], harness := (true, "723a59f4661d5357b2051a183c23fddfe0353cbd74f21dd4c50362ef83339726"), looks := true }, kinds := [], alts := [], laidByText := true, laidKinds := [.data], laidTests := true, laidLooks := .later }
def FnExactFreeVarsCardSaid : Prop := Claim7.holds Tryd.pinned (.plain (OpenSpec.ofChange fnExactFreeVarsSpec)) fnExactFreeVarsCard

/-- THE TIED CARD OF 'laws.FnExactIsClosed'. -/
def fnExactIsClosedCard : Claim7 := { stood := { row := fnExactIsClosedRow, standIns := [], harness := (true, "723a59f4661d5357b2051a183c23fddfe0353cbd74f21dd4c50362ef83339726"), looks := true }, kinds := [], alts := [], laidByText := true, laidKinds := [.data], laidTests := true, laidLooks := .later }
def FnExactIsClosedCardSaid : Prop := Claim7.holds Tryd.pinned (.plain (OpenSpec.ofChange fnExactIsClosedSpec)) fnExactIsClosedCard

/-- THE TIED CARD OF 'laws.FnExactLevelsOk'. -/
def fnExactLevelsOkCard : Claim7 := { stood := { row := fnExactLevelsOkRow, standIns := [], harness := (true, "723a59f4661d5357b2051a183c23fddfe0353cbd74f21dd4c50362ef83339726"), looks := true }, kinds := [], alts := [], laidByText := true, laidKinds := [.data], laidTests := true, laidLooks := .later }
def FnExactLevelsOkCardSaid : Prop := Claim7.holds Tryd.pinned (.plain (OpenSpec.ofChange fnExactLevelsOkSpec)) fnExactLevelsOkCard

/-- THE TIED CARD OF 'laws.FnExactIsPlain'. -/
def fnExactIsPlainCard : Claim7 := { stood := { row := fnExactIsPlainRow, standIns := [], harness := (true, "723a59f4661d5357b2051a183c23fddfe0353cbd74f21dd4c50362ef83339726"), looks := true }, kinds := [], alts := [], laidByText := true, laidKinds := [.data], laidTests := true, laidLooks := .later }
def FnExactIsPlainCardSaid : Prop := Claim7.holds Tryd.pinned (.plain (OpenSpec.ofChange fnExactIsPlainSpec)) fnExactIsPlainCard

/-- THE TIED CARD OF 'laws.FnExactIsGenerated'. -/
def fnExactIsGeneratedCard : Claim7 := { stood := { row := fnExactIsGeneratedRow, standIns := [], harness := (true, "723a59f4661d5357b2051a183c23fddfe0353cbd74f21dd4c50362ef83339726"), looks := true }, kinds := [], alts := [], laidByText := true, laidKinds := [.data], laidTests := true, laidLooks := .later }
def FnExactIsGeneratedCardSaid : Prop := Claim7.holds Tryd.pinned (.plain (OpenSpec.ofChange fnExactIsGeneratedSpec)) fnExactIsGeneratedCard

/-- THE TIED CARD OF 'laws.FnExactHighestLevel'. -/
def fnExactHighestLevelCard : Claim7 := { stood := { row := fnExactHighestLevelRow, standIns := [], harness := (true, "723a59f4661d5357b2051a183c23fddfe0353cbd74f21dd4c50362ef83339726"), looks := true }, kinds := [], alts := [], laidByText := true, laidKinds := [.data], laidTests := true, laidLooks := .later }
def FnExactHighestLevelCardSaid : Prop := Claim7.holds Tryd.pinned (.plain (OpenSpec.ofChange fnExactHighestLevelSpec)) fnExactHighestLevelCard

/-- THE SECOND FORM's CARD OF 'laws.FnExactFreeVars'. -/
def fnExactFreeVarsUptoCard : Claim7 := { stood := { row := fnExactFreeVarsUptoRow, standIns := [], harness := (true, "723a59f4661d5357b2051a183c23fddfe0353cbd74f21dd4c50362ef83339726"), looks := true }, kinds := [], alts := [], laidByText := true, laidKinds := [.data], laidTests := true, laidLooks := .later }
def FnExactFreeVarsUptoCardSaid : Prop := Claim7.holds Tryd.pinned (.plain (OpenSpec.upto fnExactFreeVarsSpec)) fnExactFreeVarsUptoCard

/-- THE SECOND FORM's CARD OF 'laws.FnExactIsClosed'. -/
def fnExactIsClosedUptoCard : Claim7 := { stood := { row := fnExactIsClosedUptoRow, standIns := [], harness := (true, "723a59f4661d5357b2051a183c23fddfe0353cbd74f21dd4c50362ef83339726"), looks := true }, kinds := [], alts := [], laidByText := true, laidKinds := [.data], laidTests := true, laidLooks := .later }
def FnExactIsClosedUptoCardSaid : Prop := Claim7.holds Tryd.pinned (.plain (OpenSpec.upto fnExactIsClosedSpec)) fnExactIsClosedUptoCard

/-- THE SECOND FORM's CARD OF 'laws.FnExactLevelsOk'. -/
def fnExactLevelsOkUptoCard : Claim7 := { stood := { row := fnExactLevelsOkUptoRow, standIns := [], harness := (true, "723a59f4661d5357b2051a183c23fddfe0353cbd74f21dd4c50362ef83339726"), looks := true }, kinds := [], alts := [], laidByText := true, laidKinds := [.data], laidTests := true, laidLooks := .later }
def FnExactLevelsOkUptoCardSaid : Prop := Claim7.holds Tryd.pinned (.plain (OpenSpec.upto fnExactLevelsOkSpec)) fnExactLevelsOkUptoCard

/-- THE SECOND FORM's CARD OF 'laws.FnExactIsPlain'. -/
def fnExactIsPlainUptoCard : Claim7 := { stood := { row := fnExactIsPlainUptoRow, standIns := [], harness := (true, "723a59f4661d5357b2051a183c23fddfe0353cbd74f21dd4c50362ef83339726"), looks := true }, kinds := [], alts := [], laidByText := true, laidKinds := [.data], laidTests := true, laidLooks := .later }
def FnExactIsPlainUptoCardSaid : Prop := Claim7.holds Tryd.pinned (.plain (OpenSpec.upto fnExactIsPlainSpec)) fnExactIsPlainUptoCard

/-- THE SECOND FORM's CARD OF 'laws.FnExactIsGenerated'. -/
def fnExactIsGeneratedUptoCard : Claim7 := { stood := { row := fnExactIsGeneratedUptoRow, standIns := [], harness := (true, "723a59f4661d5357b2051a183c23fddfe0353cbd74f21dd4c50362ef83339726"), looks := true }, kinds := [], alts := [], laidByText := true, laidKinds := [.data], laidTests := true, laidLooks := .later }
def FnExactIsGeneratedUptoCardSaid : Prop := Claim7.holds Tryd.pinned (.plain (OpenSpec.upto fnExactIsGeneratedSpec)) fnExactIsGeneratedUptoCard

/-- THE SECOND FORM's CARD OF 'laws.FnExactHighestLevel'. -/
def fnExactHighestLevelUptoCard : Claim7 := { stood := { row := fnExactHighestLevelUptoRow, standIns := [], harness := (true, "723a59f4661d5357b2051a183c23fddfe0353cbd74f21dd4c50362ef83339726"), looks := true }, kinds := [], alts := [], laidByText := true, laidKinds := [.data], laidTests := true, laidLooks := .later }
def FnExactHighestLevelUptoCardSaid : Prop := Claim7.holds Tryd.pinned (.plain (OpenSpec.upto fnExactHighestLevelSpec)) fnExactHighestLevelUptoCard
end Rows
end Go.Proofs.YtdfnjfelmfccjaaDoor
