/-
  DERIVED. GIVEN WITH THE SEED: THE CARDS: each row of YtnciibngcaajgaaDoorRows.lean that lists a variable, with what it lists TIED to the program's text (the seventh form; the later family's looks); each row that meets fmt, with fmt's text TOLD by the authors' own Lean function (tested against real Go, not proved from fmt's source: count such statements apart). THE CARD IS WHAT COUNTS. Prove the row's statement (the work); the ties are given (YtnciibngcaajgaaDoorTie.lean); close each card by the builder's one call (the guide's Derived/Test/ToyasCard.lean, 'card_holds'). Laid BY PROGRAM, IN A SANDBOX (cutbox-door.mjs). By AI agents, Wed Nov 11 2026. No macro, syntax, notation, axiom, sorry.
-/
import Derived.Test.YtnciibngcaajgaaDoorRows
import GoSem.ClaimSeven
namespace Go.Proofs.YtnciibngcaajgaaDoor
namespace Rows

/-- THE TIED CARD OF 'laws.FnTerms'. -/
def fnTermsCard : Claim7 := { stood := { row := fnTermsRow, standIns := [], harness := (true, "77245e65aa4921ba20ffe1121217e6d64e83fb231d5abb333057b0c30b0fafc4"), looks := false }, kinds := [], alts := [], laidByText := true, laidKinds := [.data], laidTests := true, laidLooks := .later }
def FnTermsCardSaid : Prop := Claim7.holds Tryd.pinned (.plain (OpenSpec.ofChange fnTermsSpec)) fnTermsCard

/-- THE TIED CARD OF 'laws.FnExactIsTerm'. -/
def fnExactIsTermCard : Claim7 := { stood := { row := fnExactIsTermRow, standIns := [], harness := (true, "77245e65aa4921ba20ffe1121217e6d64e83fb231d5abb333057b0c30b0fafc4"), looks := false }, kinds := [], alts := [], laidByText := true, laidKinds := [.data], laidTests := true, laidLooks := .later }
def FnExactIsTermCardSaid : Prop := Claim7.holds Tryd.pinned (.plain (OpenSpec.ofChange fnExactIsTermSpec)) fnExactIsTermCard

/-- THE TIED CARD OF 'laws.FnExactIsValidTerm'. -/
def fnExactIsValidTermCard : Claim7 := { stood := { row := fnExactIsValidTermRow, standIns := [], harness := (true, "77245e65aa4921ba20ffe1121217e6d64e83fb231d5abb333057b0c30b0fafc4"), looks := false }, kinds := [], alts := [], laidByText := true, laidKinds := [.data], laidTests := true, laidLooks := .later }
def FnExactIsValidTermCardSaid : Prop := Claim7.holds Tryd.pinned (.plain (OpenSpec.ofChange fnExactIsValidTermSpec)) fnExactIsValidTermCard

/-- THE SECOND FORM's CARD OF 'laws.FnTerms'. -/
def fnTermsUptoCard : Claim7 := { stood := { row := fnTermsUptoRow, standIns := [], harness := (true, "77245e65aa4921ba20ffe1121217e6d64e83fb231d5abb333057b0c30b0fafc4"), looks := false }, kinds := [], alts := [], laidByText := true, laidKinds := [.data], laidTests := true, laidLooks := .later }
def FnTermsUptoCardSaid : Prop := Claim7.holds Tryd.pinned (.plain (OpenSpec.upto fnTermsSpec)) fnTermsUptoCard

/-- THE SECOND FORM's CARD OF 'laws.FnExactIsTerm'. -/
def fnExactIsTermUptoCard : Claim7 := { stood := { row := fnExactIsTermUptoRow, standIns := [], harness := (true, "77245e65aa4921ba20ffe1121217e6d64e83fb231d5abb333057b0c30b0fafc4"), looks := false }, kinds := [], alts := [], laidByText := true, laidKinds := [.data], laidTests := true, laidLooks := .later }
def FnExactIsTermUptoCardSaid : Prop := Claim7.holds Tryd.pinned (.plain (OpenSpec.upto fnExactIsTermSpec)) fnExactIsTermUptoCard

/-- THE SECOND FORM's CARD OF 'laws.FnExactIsValidTerm'. -/
def fnExactIsValidTermUptoCard : Claim7 := { stood := { row := fnExactIsValidTermUptoRow, standIns := [], harness := (true, "77245e65aa4921ba20ffe1121217e6d64e83fb231d5abb333057b0c30b0fafc4"), looks := false }, kinds := [], alts := [], laidByText := true, laidKinds := [.data], laidTests := true, laidLooks := .later }
def FnExactIsValidTermUptoCardSaid : Prop := Claim7.holds Tryd.pinned (.plain (OpenSpec.upto fnExactIsValidTermSpec)) fnExactIsValidTermUptoCard
end Rows
end Go.Proofs.YtnciibngcaajgaaDoor
