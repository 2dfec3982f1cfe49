/-
  The contracts of the model's SizeOfType, DepthOfType, l3Form, l3Left, l3Has: what they answer at a type in memory.
-/
import Derived.Test.YtdfnjfelmfccjaaTyInd
namespace Go.Proofs.Ytdfnjfelmfccjaa
open Go Go.RowKit

end Go.Proofs.Ytdfnjfelmfccjaa

