/-
  The contracts of the model's SizeOfType, DepthOfType, l3Form, l3Left, l3Has: what they answer at a type in memory.
-/
import Derived.Test.YteoeefmdfalnjaaTyInd
namespace Go.Proofs.Yteoeefmdfalnjaa
open Go Go.RowKit

end Go.Proofs.Yteoeefmdfalnjaa

