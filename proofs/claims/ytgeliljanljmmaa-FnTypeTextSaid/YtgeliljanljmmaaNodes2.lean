/-
  The loop over a type's nodes, ready for its callers.
-/
import Derived.Test.YtgeliljanljmmaaNodes
namespace Go.Proofs.Ytgeliljanljmmaa
open Go Go.RowKit Go.Shelf
attribute [local go_sem] Oper.semAt_some

abbrev encN (x : Ty × Value × Nat) : Array Value := #[.agg #[.int .i64 x.1.kind, x.2.1], .int .i64 (x.2.2 : Nat)]
abbrev keyN (x : Ty × Value × Nat) : Ty × Nat := (x.1, x.2.2)
abbrev GoodN (C : Nat → Prop) (x : Ty × Value × Nat) (W : World) : Prop := TS W C x.1.args x.2.1

theorem nodes_seq {w : World} (Bt : Nat) (t : Ty) (s : Value) (Cb C : Nat → Prop) (h0 : w.cell? ⟨Bt, 0, none⟩ = some (.int .i64 t.kind)) (h1 : w.cell? ⟨Bt, 1, none⟩ = some s) (hT : TS w C t.args s) (hn : nodesS t.args ≤ 1048576)
    (hCb : ∀ b, Cb b → b < w.heap.size) (hC : ∀ b, C b → ¬ Cb b ∧ b < w.heap.size) :
    SeqT Fence.wide 1 Try.prog 55 #[.pointer (some ⟨Bt, 0, none⟩)] encN keyN (GoodN C) Cb (walkT t 1) w := by
  intro l J Jx W hb hJ hY hJ0
  have hlt := World.block_lt_of_cell? w _ h0
  exact nodes_it l Bt t s Cb C W J Jx ((hb.cell hlt).trans h0) ((hb.cell (p := ⟨Bt, 1, none⟩) hlt).trans h1) (hT.keep hb) hn (fun b h => Nat.lt_of_lt_of_le (hCb b h) hb.size) (fun b h => ⟨(hC b h).1, Nat.lt_of_lt_of_le (hC b h).2 hb.size⟩) hJ
    (fun pre x sx d W1 h1 h2 h3 => hY pre (x, sx, d) W1 h1 h2 h3) hJ0

theorem good_keep {C : Nat → Prop} {n : Nat} (hC : ∀ b, C b → b < n) (x : Ty × Value × Nat) (A B : World) (h : GoodN C x A) (hb : Below n A B) : GoodN C x B :=
  h.stays ⟨hb.size, fun b hc _ => hb.block b (hC b hc)⟩

set_option maxRecDepth 100000 in
theorem tn_any (k : Int) (p : Option Addr) (n c : Nat) (w : World) : Calls Try.prog 41 #[.agg #[.int .i64 k, .slice p n c]] w fun e w' =>
    e = .returned (.func (.func 55) #[] #[.pointer (some ⟨w.heap.size, 0, none⟩)]) ∧ w' = w.alloc (.cells #[.int .i64 k, .slice p n c] 26) := by
  go_enter Try.func41, Try.ntmps41
  go_wp2
  go_ret
  exact ⟨rfl, rfl⟩

theorem pre_len {pre : List (Ty × Nat)} {t : Ty} (h : pre <+: walkT t 1) (hn : nodesS t.args ≤ 1048576) : pre.length ≤ 1048577 := by
  have h1 := h.length_le
  rw [walkT_length] at h1
  have := t.nodes_eq
  omega

/-- The world in which such a loop stands: the parameter's box, one box of the function's own (a number or a bool), the iterator's box. -/
theorem loop_world (w : World) (A B A' : Array Value) (tA tB tA' : TypeId) : ∃ wl : World, ((w.alloc (.cells A tA)).alloc (.cells B tB)).alloc (.cells A' tA') = wl ∧ wl.heap.size = w.heap.size + 3 ∧ Below w.heap.size w wl ∧
    wl.heap[w.heap.size]? = some (.cells A tA (0, 0)) ∧ wl.heap[w.heap.size + 1]? = some (.cells B tB (0, 0)) ∧ wl.heap[w.heap.size + 1 + 1]? = some (.cells A' tA' (0, 0)) := by
  have s1 : (w.alloc (.cells A tA)).heap.size = w.heap.size + 1 := by simp
  have s2 : ((w.alloc (.cells A tA)).alloc (.cells B tB)).heap.size = w.heap.size + 1 + 1 := by simp
  refine ⟨_, rfl, by simp, (((Below.refl _ w).alloc (Nat.le_refl _) _).alloc (by simp) _).alloc (by simp; omega) _, ?_, ?_, ?_⟩
  · rw [Below.heap_alloc _ _ _ (by simp; omega), Below.heap_alloc _ _ _ (by simp)]
    exact blk_new _ _
  · rw [Below.heap_alloc _ _ _ (by simp), ← s1]
    exact blk_new _ _
  · rw [← s2]
    exact blk_new _ _
end Go.Proofs.Ytgeliljanljmmaa

