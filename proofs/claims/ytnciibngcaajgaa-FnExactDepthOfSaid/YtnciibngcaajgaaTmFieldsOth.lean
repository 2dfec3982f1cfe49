/-
  The contract of the model's l5Fields: one sort of kinds.
-/
import Derived.Test.YtnciibngcaajgaaTmFields0
namespace Go.Proofs.Ytnciibngcaajgaa
open Go Go.RowKit

end Go.Proofs.Ytnciibngcaajgaa

