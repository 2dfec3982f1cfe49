/-
  The table of the program that holds the number of parts by kind.
-/
import Derived.Test.YtfeijijeohfpgaaDoorTmFields
import Derived.Lib.LaidTab
namespace Go.Proofs.YtfeijijeohfpgaaDoor
open Go Go.RowKit

theorem gKA : Tryd.prog.globalNamed "loop.example/g00589/impl.kindArity" = some 1 := by kernel_rfl
def kaTab : List Int := [0, 0, 0, 0, 0, 3, 1, 2, 2, 1, 1, 1, 1, 1]
/-- The table reads as the program's text lays it. -/
def KA (w : World) : Prop := Lib.TabIs Tryd.prog w "loop.example/g00589/impl.kindArity" .i64 kaTab ∧ 1 < w.heap.size
theorem KA.below {w w' : World} (h : KA w) (hb : Below w.heap.size w w') : KA w' := ⟨var?_below hb gKA h.2 h.1, Nat.lt_of_lt_of_le h.2 hb.size⟩
theorem KA.cell {w : World} (h : KA w) (i : Nat) : w.cell? ⟨1, i, none⟩ = ((kaTab.map fun z => Value.int .i64 z).toArray)[i]? := World.var?_cell gKA h.1 i

/-- The node is of one of the forms, whatever its parts are. -/
def Tm.NodeOk (t : Tm) : Prop := t.FieldsOk ∧ (t.args.length : Int) = t.arity
theorem ok_ex : ∃ ok : Tm → Bool, ∀ x, ok x = true ↔ x.NodeOk := ⟨fun x => @decide x.NodeOk (Classical.propDecidable _), fun _ => @decide_eq_true_iff _ (Classical.propDecidable _)⟩
end Go.Proofs.YtfeijijeohfpgaaDoor

