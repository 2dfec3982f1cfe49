/-
  The contract of the model's EqualType.
-/
import Derived.Test.YtfeijijeohfpgaaDoorSpecTy3
import Derived.Test.YtfeijijeohfpgaaDoorTyInd
namespace Go.Proofs.YtfeijijeohfpgaaDoor
open Go Go.RowKit

theorem keep6 {w W w1 : World} {p1 p2 p3 p4 p5 p6 : Addr} {v1 v2 v3 v4 v5 v6 : Value} (hb1 : Below W.heap.size W w1) (h : W.cell? p1 = some v1 ∧ W.cell? p2 = some v2 ∧ W.cell? p3 = some v3 ∧ W.cell? p4 = some v4 ∧ W.cell? p5 = some v5 ∧ W.cell? p6 = some v6 ∧ Below w.heap.size w W) :
    w1.cell? p1 = some v1 ∧ w1.cell? p2 = some v2 ∧ w1.cell? p3 = some v3 ∧ w1.cell? p4 = some v4 ∧ w1.cell? p5 = some v5 ∧ w1.cell? p6 = some v6 ∧ Below w.heap.size w w1 := by
  have k : ∀ {p : Addr} {v : Value}, W.cell? p = some v → w1.cell? p = some v := fun h => (hb1.cell (World.block_lt_of_cell? W _ h)).trans h
  exact ⟨k h.1, k h.2.1, k h.2.2.1, k h.2.2.2.1, k h.2.2.2.2.1, k h.2.2.2.2.2.1, h.2.2.2.2.2.2.trans (hb1.mono h.2.2.2.2.2.2.size)⟩

end Go.Proofs.YtfeijijeohfpgaaDoor

