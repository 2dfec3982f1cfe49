/-
  The contract of the model's IsValidTerm.
-/
import Derived.Test.YtfeijijeohfpgaaDoorTmIsT
namespace Go.Proofs.YtfeijijeohfpgaaDoor
open Go Go.RowKit

def Tm.Valid (t : Tm) : Prop := t.nodes ≤ 80 ∧ t.depth ≤ 20 ∧ t.IsT

end Go.Proofs.YtfeijijeohfpgaaDoor

