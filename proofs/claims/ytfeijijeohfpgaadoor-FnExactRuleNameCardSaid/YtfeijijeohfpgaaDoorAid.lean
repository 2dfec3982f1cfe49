/-
  Small facts that many texts use: lists, numbers that stay in their range, cells that an append keeps. Of no program.
-/
import Derived.Test.YtfeijijeohfpgaaDoorSpecEq
import Derived.Test.YtfeijijeohfpgaaDoorRangeT
import Derived.Test.YtfeijijeohfpgaaDoorRowN
import Derived.Test.YtfeijijeohfpgaaDoorKind2
import Derived.RangeFuncNested
import Derived.RangeFuncBound
import Derived.RangeFuncCalls
import Derived.Shelf.Abstract
import Derived.IntWalk
import Derived.Shelf.RegionOpen
import Derived.WalkKit
import Derived.TacticsInMore
import Derived.LoopNIn
import Derived.LoopIn
import Derived.Sort.LoopGhostIn
import Derived.Deep.LoopGhost
import Derived.Deep.CutRange
import Derived.Deep.RegionHeldLaw
namespace Go.Proofs.YtfeijijeohfpgaaDoor
open Go Go.RowKit

theorem snoc_cases {α : Type} (l : List α) : l = [] ∨ ∃ l0 e, l = l0 ++ [e] := by
  rcases List.eq_nil_or_concat l with h | ⟨l0, e, h⟩
  · exact Or.inl h
  · exact Or.inr ⟨l0, e, by rw [h, List.concat_eq_append]⟩
theorem wrap_in (n : Nat) (h : n ≤ 9223372036854775807) : IntKind.i64.wrap (n : Int) = n := IntWalk.i64_in _ (by omega)
theorem wrap64_nat (n : Nat) (h : n ≤ 9223372036854775807) : wrap64 (n : Int) = n := by
  unfold wrap64
  omega

theorem keepApp {w0 w' : World} {base : Nat} {e : TypeId} {size n : Nat} {v : Value} {xs cs : List Value} {g cap : Nat} (hA : Appd w0 w' base e size v n xs cs g cap) {p : Addr} {u : Value} (h : w0.cell? p = some u) (hne : v.ownBlock ≠ some p.block) : w'.cell? p = some u :=
  (World.cell?_of_block (hA.kept p.block (World.block_lt_of_cell? w0 _ h) hne).1).trans h

theorem two_blk0 (w : World) (A B : Array Value) (tA tB : TypeId) : ((w.alloc (.cells A tA)).alloc (.cells B tB)).drew.heap[w.heap.size]? = some (.cells A tA (0, 0)) := by
  show ((w.alloc (.cells A tA)).alloc (.cells B tB)).heap[w.heap.size]? = _
  rw [Below.heap_alloc _ _ _ (by simp)]
  exact blk_new _ _
theorem two_blk1 (w : World) (A B : Array Value) (tA tB : TypeId) : ((w.alloc (.cells A tA)).alloc (.cells B tB)).drew.heap[w.heap.size + 1]? = some (.cells B tB (0, 0)) := by
  show ((w.alloc (.cells A tA)).alloc (.cells B tB)).heap[w.heap.size + 1]? = _
  have := blk_new (w.alloc (.cells A tA)) (.cells B tB)
  rwa [World.size_alloc] at this

end Go.Proofs.YtfeijijeohfpgaaDoor

