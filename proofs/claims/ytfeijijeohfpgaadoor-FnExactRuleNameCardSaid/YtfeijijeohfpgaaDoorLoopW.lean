/-
  Worlds with one, two, three boxes more; what the box of a loop's number says. Of no program.
-/
import Derived.Test.YtfeijijeohfpgaaDoorAid
namespace Go.Proofs.YtfeijijeohfpgaaDoor
open Go Go.RowKit

theorem box_new (w : World) (A : Array Value) (T : TypeId) : ∃ wl : World, w.alloc (.cells A T) = wl ∧ wl.heap.size = w.heap.size + 1 ∧ Below w.heap.size w wl ∧ wl.heap[w.heap.size]? = some (.cells A T (0, 0)) :=
  ⟨_, rfl, by simp, (Below.refl _ w).alloc (Nat.le_refl _) _, blk_new _ _⟩
theorem box_new2 (w : World) (A B : Array Value) (tA tB : TypeId) : ∃ wl : World, (w.alloc (.cells A tA)).alloc (.cells B tB) = wl ∧ wl.heap.size = w.heap.size + 2 ∧ Below w.heap.size w wl ∧
    wl.heap[w.heap.size]? = some (.cells A tA (0, 0)) ∧ wl.heap[w.heap.size + 1]? = some (.cells B tB (0, 0)) := by
  have s1 : (w.alloc (.cells A tA)).heap.size = w.heap.size + 1 := by simp
  refine ⟨_, rfl, by simp, ((Below.refl _ w).alloc (Nat.le_refl _) _).alloc (by simp) _, ?_, ?_⟩
  · rw [Below.heap_alloc _ _ _ (by simp)]
    exact blk_new _ _
  · rw [← s1]
    exact blk_new _ _
theorem box_new3 (w : World) (A B D : Array Value) (tA tB tD : TypeId) : ∃ wl : World, ((w.alloc (.cells A tA)).alloc (.cells B tB)).alloc (.cells D tD) = wl ∧ wl.heap.size = w.heap.size + 3 ∧ Below w.heap.size w wl ∧
    wl.heap[w.heap.size]? = some (.cells A tA (0, 0)) ∧ wl.heap[w.heap.size + 1]? = some (.cells B tB (0, 0)) ∧ wl.heap[w.heap.size + 1 + 1]? = some (.cells D tD (0, 0)) := by
  have s1 : (w.alloc (.cells A tA)).heap.size = w.heap.size + 1 := by simp
  have s2 : ((w.alloc (.cells A tA)).alloc (.cells B tB)).heap.size = w.heap.size + 1 + 1 := by simp
  refine ⟨_, rfl, by simp, (((Below.refl _ w).alloc (Nat.le_refl _) _).alloc (by simp) _).alloc (by simp; omega) _, ?_, ?_, ?_⟩
  · rw [Below.heap_alloc _ _ _ (by simp; omega), Below.heap_alloc _ _ _ (by simp)]
    exact blk_new _ _
  · rw [Below.heap_alloc _ _ _ (by simp), ← s1]
    exact blk_new _ _
  · rw [← s2]
    exact blk_new _ _
theorem box_new4 (w : World) (A B D E : Array Value) (tA tB tD tE : TypeId) : ∃ wl : World, (((w.alloc (.cells A tA)).alloc (.cells B tB)).alloc (.cells D tD)).alloc (.cells E tE) = wl ∧ wl.heap.size = w.heap.size + 4 ∧ Below w.heap.size w wl ∧
    wl.heap[w.heap.size]? = some (.cells A tA (0, 0)) ∧ wl.heap[w.heap.size + 1]? = some (.cells B tB (0, 0)) ∧ wl.heap[w.heap.size + 1 + 1]? = some (.cells D tD (0, 0)) ∧ wl.heap[w.heap.size + 1 + 1 + 1]? = some (.cells E tE (0, 0)) := by
  obtain ⟨w3, h3, hs3, hb3, k0, k1⟩ := box_new2 w A B tA tB
  obtain ⟨w5, h5, hs5, hb5, k3, k4⟩ := box_new2 w3 D E tD tE
  refine ⟨w5, by rw [h3]; exact h5, by omega, hb3.trans (hb5.mono (by omega)), (hb5.block _ (by omega)).trans k0, (hb5.block _ (by omega)).trans k1, ?_, ?_⟩
  · rw [hs3] at k3; exact k3
  · rw [hs3] at k4; exact k4
theorem box_new5 (w : World) (A B D E F : Array Value) (tA tB tD tE tF : TypeId) : ∃ wl : World, ((((w.alloc (.cells A tA)).alloc (.cells B tB)).alloc (.cells D tD)).alloc (.cells E tE)).alloc (.cells F tF) = wl ∧ wl.heap.size = w.heap.size + 5 ∧ Below w.heap.size w wl ∧
    wl.heap[w.heap.size]? = some (.cells A tA (0, 0)) ∧ wl.heap[w.heap.size + 1]? = some (.cells B tB (0, 0)) ∧ wl.heap[w.heap.size + 1 + 1]? = some (.cells D tD (0, 0)) ∧ wl.heap[w.heap.size + 1 + 1 + 1]? = some (.cells E tE (0, 0)) ∧ wl.heap[w.heap.size + 1 + 1 + 1 + 1]? = some (.cells F tF (0, 0)) := by
  obtain ⟨w3, h3, hs3, hb3, k0, k1, k2⟩ := box_new3 w A B D tA tB tD
  obtain ⟨w5, h5, hs5, hb5, k3, k4⟩ := box_new2 w3 E F tE tF
  refine ⟨w5, by rw [h3]; exact h5, by omega, hb3.trans (hb5.mono (by omega)), (hb5.block _ (by omega)).trans k0, (hb5.block _ (by omega)).trans k1, (hb5.block _ (by omega)).trans k2, ?_, ?_⟩
  · rw [hs3] at k3; exact k3
  · rw [hs3] at k4; exact k4
end Go.Proofs.YtfeijijeohfpgaaDoor

