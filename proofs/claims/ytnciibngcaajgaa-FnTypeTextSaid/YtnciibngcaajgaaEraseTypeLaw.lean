/-
  The walk of the law that EraseType answers as its model does, writes into no argument, and owns its answer.
-/
import Derived.Test.YtnciibngcaajgaaOpenT
import Derived.Test.YtnciibngcaajgaaTyMark
import Derived.Test.YtnciibngcaajgaaTyEq
import Derived.Test.YtnciibngcaajgaaSpecErase
import Derived.Test.YtnciibngcaajgaaEraseI
namespace Go.Proofs.Ytnciibngcaajgaa
open Go Go.RowKit

theorem eraseK_nodes (k : Int) (es : List Ty) : (eraseK k es).nodes ≤ 1 + nodesS es := by
  unfold eraseK
  split
  · next h =>
    obtain ⟨x, rfl⟩ := List.length_eq_one_iff.1 h.2
    simp [nodesS]
  · simp [Ty.nodes]
mutual
theorem erase_nodes : ∀ t : Ty, t.erase.nodes ≤ t.nodes
  | .mk k ts => by
    have h1 := eraseS_nodes ts
    have h2 := eraseK_nodes k (eraseS ts)
    simp only [Ty.erase, Ty.nodes]
    omega
theorem eraseS_nodes : ∀ ts : List Ty, nodesS (eraseS ts) ≤ nodesS ts
  | [] => Nat.le_refl _
  | t :: ts => by
    have h1 := erase_nodes t
    have h2 := eraseS_nodes ts
    simp only [eraseS, nodesS]
    omega
end
theorem erase_args_nodes (t : Ty) : nodesS t.erase.args ≤ nodesS t.args := by
  have h1 := erase_nodes t
  rw [t.nodes_eq, t.erase.nodes_eq] at h1
  omega

/-- A box that holds a type's two cells. -/
def Bx (w : World) (b : Nat) (k : Int) (s : Value) : Prop := w.cell? ⟨b, 0, none⟩ = some (.int .i64 k) ∧ w.cell? ⟨b, 1, none⟩ = some s
theorem Bx.lt {w : World} {b : Nat} {k : Int} {s : Value} (h : Bx w b k s) : b < w.heap.size := World.block_lt_of_cell? w _ h.1
theorem Bx.stays {w w' : World} {b : Nat} {k : Int} {s : Value} {C : Nat → Prop} (h : Bx w b k s) (hs : Stays C w w') (hc : C b) : Bx w' b k s :=
  ⟨(World.cell?_of_block (w := w) (a := ⟨b, 0, none⟩) (hs.2 b hc h.lt)).trans h.1, (World.cell?_of_block (w := w) (a := ⟨b, 1, none⟩) (hs.2 b hc h.lt)).trans h.2⟩
theorem Bx.keep {w w' : World} {b : Nat} {k : Int} {s : Value} (h : Bx w b k s) (hb : Below w.heap.size w w') : Bx w' b k s := h.stays (C := fun _ => True) (.of_below hb) trivial
theorem Bx.new (w : World) (k : Int) (s : Value) (t : TypeId) : Bx (w.alloc (.cells #[.int .i64 k, s] t)) w.heap.size k s :=
  ⟨cell_of_blk (blk_new w _) 0, cell_of_blk (blk_new w _) 1⟩
theorem TT.stays {w w' : World} {C : Nat → Prop} {t : Ty} {v : Value} (h : TT w C t v) (hs : Stays C w w') : TT w' C t v := by
  obtain ⟨s, hv, h⟩ := h
  exact ⟨s, hv, h.stays hs⟩
theorem OT.stays {w w' : World} {F : Nat → Prop} {t : Ty} {v : Value} (h : OT w t v F) (hs : Stays F w w') : OT w' t v F := by
  obtain ⟨s, hv, h⟩ := h
  exact ⟨s, hv, h.stays hs⟩
theorem alloc_below (w : World) (o : Obj) : Below w.heap.size w (w.alloc o) := (Below.refl _ w).alloc (Nat.le_refl _) o

/-- THE MODEL's EraseType, AT ANY TYPE. -/
theorem eraseSpT_any {C : Nat → Prop} {t : Ty} {v : Value} {w : World} (h : TT w C t v) (hn : nodesS t.args ≤ 1048576) : Calls Try.prog 30 #[v] w (NewR t.erase w) := by
  obtain ⟨s, rfl, h⟩ := h
  have := eraseSp_any h w t.kind (Stays.refl _ _) hn
  rwa [← Ty.eta t] at this

end Go.Proofs.Ytnciibngcaajgaa

