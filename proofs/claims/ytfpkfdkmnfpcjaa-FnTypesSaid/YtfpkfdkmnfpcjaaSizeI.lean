/-
  The contract of the program's SizeOfType.
-/
import Derived.Test.YtfpkfdkmnfpcjaaNodes2
namespace Go.Proofs.Ytfpkfdkmnfpcjaa
open Go Go.RowKit Go.Shelf
attribute [local go_sem] Oper.semAt_some

set_option maxRecDepth 100000 in
set_option maxHeartbeats 2000000 in
theorem sizeI_any {C : Nat → Prop} {t : Ty} {v : Value} {w : World} (h : TT w C t v) (hn : nodesS t.args ≤ 1048576) :
    Calls Try.prog 13 #[v] w (IntRet (fun r => r = ((1 + nodesS t.args : Nat) : Int)) w) := by
  obtain ⟨s, rfl, hS⟩ := h
  obtain ⟨p, c, rfl⟩ := hS.form
  have HS := Lib.hid (hS.mono (C' := (· < w.heap.size)) (fun b _ h => h))
  clear hS
  refine (callsIn_wide (n := 2)).1 ?_
  refine callsIn_of_wp_marks Try.func13 rfl trivial ?_ rfl
  simp only [Try.ntmps13, List.size_toArray, List.length_cons, List.length_nil, Nat.reduceAdd, Nat.reduceSub, Array.replicate_succ, Array.replicate_zero, List.push_toArray, List.append_toArray, List.nil_append, List.cons_append]
  gi_wp2_with (refine ⟨trivial, ?_⟩; gi_at_call 35; refine (callsIn_wide.2 (tn_any _ _ _ _ _)).mono ?_; rintro e w' ⟨rfl, rfl⟩)
  obtain ⟨wl, hwl, hsz, hbl, k0, k1, k2⟩ := loop_world w #[.int .i64 t.kind, .slice p t.args.length c] #[.int .i64 0] #[.int .i64 t.kind, .slice p t.args.length c] 26 3 26
  rw [hwl]
  have HSL : TS wl (· < w.heap.size) t.args (.slice p t.args.length c) := HS.out.keep hbl
  refine range_law (F := Fence.wide) (n := 2) rfl (by omega) (gf := 54) (lb := #[.pointer (some ⟨w.heap.size + 1 + 1, 0, none⟩)]) rfl trivial (enters_of Try.func54 (by kernel_rfl) rfl)
    (nodes_seq (w.heap.size + 1 + 1) t _ (fun b => b = w.heap.size + 1) (· < w.heap.size) (cell_of_blk k2 0) (cell_of_blk k2 1) HSL hn (fun b h => by omega) (fun b h => ⟨by omega, by omega⟩)) (fun _ => rfl) (fun b h => by omega)
    (fun pre W => W.cell? ⟨w.heap.size + 1, 0, none⟩ = some (.int .i64 (pre.length : Nat)) ∧ W.frozen? ⟨w.heap.size + 1, 0, none⟩ = false ∧ Below w.heap.size w W)
    (fun _ _ _ => False)
    (fun pre A B h hb => ⟨(hb.cell (by show w.heap.size + 1 < _; omega)).trans h.1, (hb.frozen (by show w.heap.size + 1 < _; omega)).trans h.2.1, h.2.2.trans (hb.mono (by omega))⟩)
    (fun _ _ _ _ h _ => h) (good_keep (fun b h => by omega)) ⟨cell_of_blk k1 0, unfrozen_of_blk k1 0, hbl⟩
    (fun x a' _ => a' = { tmps := #[.agg #[.int .i64 t.kind, .slice p t.args.length c], .pointer (some ⟨w.heap.size, 0, none⟩), .int .i64 0, .pointer (some ⟨w.heap.size + 1, 0, none⟩), .agg #[.int .i64 t.kind, .slice p t.args.length c],
      .func (.func 54) #[] #[.pointer (some ⟨w.heap.size + 1 + 1, 0, none⟩)], .agg #[.int .i64 x.1.kind, x.2.1], .int .i64 (x.2.2 : Nat), undef, undef, undef], defers := [] })
    (fun _ _ _ _ _ _ h _ => h) ?assign ?body ?done ?stop
  case assign =>
    intro l x W K _ hK
    gi_wp2
    exact hK _ _ (Below.refl _ _) (by simp)
  case body =>
    rintro l pre x a' W ⟨hc, hf, hB⟩ hpre _ rfl
    have hlen := pre_len hpre hn
    rw [List.length_append, List.length_singleton] at hlen
    have HP := Lib.hid hpre
    clear hpre k0 k1 k2
    gi_wp2
    refine ⟨Holds.setCell (Cb := fun b => b = w.heap.size + 1) (Holds.refl _ W) ⟨w.heap.size + 1, 0, none⟩ rfl _, ?_, by rw [World.frozen?_setCell]; exact hf, hB.setCell (p := ⟨w.heap.size + 1, 0, none⟩) (by show w.heap.size ≤ w.heap.size + 1; omega) _⟩
    rw [List.length_append, List.length_singleton]
    exact World.cell?_setCell_same' _ _ _ (by rw [hc]; rfl)
  case done =>
    rintro D W hD ⟨hc, _, hB⟩ hK
    rw [walkT_length, Ty.nodes_eq] at hc
    gi_wp2
    refine ⟨by simp, .inl ⟨_, _, rfl, run_takeDeferred hK, ?_⟩⟩
    exact ⟨_, results_tmp rfl _ _ _, _, rfl, rfl, hB.trans (below_putObj _ _ _ _ (by omega))⟩
  case stop =>
    rintro D c pre W _ _ h _
    exact h.elim
#print axioms sizeI_any
end Go.Proofs.Ytfpkfdkmnfpcjaa
