/-
  The contracts of the program's kinds of types: arity, kindOf, IsBase, isCode.
-/
import Derived.Test.YtdfnjfelmfccjaaSpecTy3
namespace Go.Proofs.Ytdfnjfelmfccjaa
open Go Go.RowKit

theorem keep1 {w W w1 : World} {p1 : Addr} {v1 : Value} (hb1 : Below W.heap.size W w1) (h : W.cell? p1 = some v1 ∧ Below w.heap.size w W) : w1.cell? p1 = some v1 ∧ Below w.heap.size w w1 :=
  ⟨(hb1.cell (World.block_lt_of_cell? W _ h.1)).trans h.1, h.2.trans (hb1.mono h.2.size)⟩

end Go.Proofs.Ytdfnjfelmfccjaa

