/-
  The contracts of the program's IsBase and isCode.
-/
import Derived.Test.YtdfnjfelmfccjaaKind
namespace Go.Proofs.Ytdfnjfelmfccjaa
open Go Go.RowKit

theorem dec_t {P : Prop} [Decidable P] (h : P) : true = decide P := (decide_eq_true h).symm
theorem dec_f {P : Prop} [Decidable P] (h : ¬ P) : false = decide P := (decide_eq_false h).symm

def Ty.code (t : Ty) : Bool := decide (t.kind = 4 ∧ t.args.length = 1)

end Go.Proofs.Ytdfnjfelmfccjaa

