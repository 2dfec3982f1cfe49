/-
  The contract of the model's l5Fields: the fields of a node are those of its kind.
-/
import Derived.Test.YtnciibngcaajgaaTmFieldsSix
import Derived.Test.YtnciibngcaajgaaTmFieldsNine
import Derived.Test.YtnciibngcaajgaaTmFieldsOth
namespace Go.Proofs.Ytnciibngcaajgaa
open Go Go.RowKit

end Go.Proofs.Ytnciibngcaajgaa

