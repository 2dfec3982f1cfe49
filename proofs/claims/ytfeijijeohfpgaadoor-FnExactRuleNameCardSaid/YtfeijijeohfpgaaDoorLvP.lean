/-
  What LevelsOk asks of each node. Of no program.
-/
import Derived.Test.YtfeijijeohfpgaaDoorLvP0
import Derived.Test.YtfeijijeohfpgaaDoorTmWalk
namespace Go.Proofs.YtfeijijeohfpgaaDoor
open Go Go.RowKit

/-- What is right of a node at a level. -/
def LvNode (e : Tm × Int) : Prop := (0 ≤ e.2 ∧ e.2 ≤ 2) ∧ e.1.NodeOk
mutual
theorem isT_walkL : ∀ (t : Tm) (l : Int), t.IsT ↔ ∀ e ∈ walkL t l, e.1.NodeOk
  | .mk k a b n t r ts, l => by
    have h := isT_walkLS ts (nextL k l)
    rw [Tm.IsT_eq]
    show IsTS ts ∧ _ ∧ _ ↔ _
    rw [h]
    simp only [walkL, List.forall_mem_cons]
    exact And.comm
theorem isT_walkLS : ∀ (ts : List Tm) (l : Int), IsTS ts ↔ ∀ e ∈ walkLS ts l, e.1.NodeOk
  | [], l => by simp [IsTS, walkLS]
  | t :: ts, l => by
    have h1 := isT_walkLS ts l
    have h2 := isT_walkL t l
    simp only [IsTS, walkLS, List.forall_mem_append, h1, h2]
end
/-- The model's LevelsOk, by the nodes. -/
theorem levels_walk (t : Tm) (l : Int) : (t.IsT ∧ t.lvOk l) ↔ ∀ e ∈ walkL t l, LvNode e := by
  rw [isT_walkL t l, lvOk_walk]
  exact ⟨fun h e he => ⟨h.2 e he, h.1 e he⟩, fun h => ⟨fun e he => (h e he).2, fun e he => (h e he).1⟩⟩
end Go.Proofs.YtfeijijeohfpgaaDoor

