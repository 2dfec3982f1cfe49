/-
  The contracts of the model's SizeOfType, DepthOfType, l3Form, l3Left, l3Has: what they answer at a type in memory.
-/
import Derived.Test.YtfeijijeohfpgaaDoorTyInd
namespace Go.Proofs.YtfeijijeohfpgaaDoor
open Go Go.RowKit

end Go.Proofs.YtfeijijeohfpgaaDoor

