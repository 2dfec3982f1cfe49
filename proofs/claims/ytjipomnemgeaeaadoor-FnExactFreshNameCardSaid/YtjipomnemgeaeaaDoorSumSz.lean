/-
  A string of a list is no longer than all of them.
-/
import Derived.Test.YtjipomnemgeaeaaDoorSz
namespace Go.Proofs.YtjipomnemgeaeaaDoor
open Go Go.RowKit

theorem size_le_sum {xs : List ByteArray} {x : ByteArray} (h : x ∈ xs) : x.size ≤ sumSz xs := by
  induction xs with
  | nil => cases h
  | cons y ys ih =>
    simp only [sumSz]
    rcases List.mem_cons.1 h with rfl | h
    · omega
    · have := ih h
      omega
end Go.Proofs.YtjipomnemgeaeaaDoor
