/-
  The contract of the program's DepthOfType.
-/
import Derived.Test.YtfpkfdkmnfpcjaaNodes2
namespace Go.Proofs.Ytfpkfdkmnfpcjaa
open Go Go.RowKit Go.Shelf
attribute [local go_sem] Oper.semAt_some

/-- The greatest depth so far. -/
def maxd : List (Ty × Nat) → Nat
  | [] => 0
  | e :: l => max e.2 (maxd l)
theorem maxd_append (a b : List (Ty × Nat)) : maxd (a ++ b) = max (maxd a) (maxd b) := by
  induction a with
  | nil => simp [maxd]
  | cons e a ih => simp only [List.cons_append, maxd, ih]; omega
theorem maxd_snoc (a : List (Ty × Nat)) (e : Ty × Nat) : maxd (a ++ [e]) = max (maxd a) e.2 := by rw [maxd_append]; simp [maxd]
theorem maxd_prefix {a b : List (Ty × Nat)} (h : a <+: b) : maxd a ≤ maxd b := by
  obtain ⟨c, rfl⟩ := h
  rw [maxd_append]
  omega
mutual
theorem maxd_walk : ∀ (t : Ty) (d : Nat), maxd (walkT t d) + 1 = d + t.depth
  | .mk k ts, d => by
    have h := maxd_walkS ts d
    simp only [walkT, maxd, Ty.depth]
    omega
theorem maxd_walkS : ∀ (ts : List Ty) (d : Nat), max d (maxd (walkS ts (d + 1))) = d + depthS ts
  | [], d => by simp [walkS, maxd, depthS]
  | t :: ts, d => by
    have h1 := maxd_walkS ts d
    have h2 := maxd_walk t (d + 1)
    simp only [walkS, maxd_append, depthS]
    omega
end

set_option maxRecDepth 100000 in
set_option maxHeartbeats 2000000 in
theorem depthI_any {C : Nat → Prop} {t : Ty} {v : Value} {w : World} (h : TT w C t v) (hn : nodesS t.args ≤ 1048576) :
    Calls Try.prog 14 #[v] w (IntRet (fun r => r = ((1 + depthS t.args : Nat) : Int)) w) := by
  obtain ⟨s, rfl, hS⟩ := h
  obtain ⟨p, c, rfl⟩ := hS.form
  have HS := Lib.hid (hS.mono (C' := (· < w.heap.size)) (fun b _ h => h))
  clear hS
  refine (callsIn_wide (n := 2)).1 ?_
  refine callsIn_of_wp_marks Try.func14 rfl trivial ?_ rfl
  simp only [Try.ntmps14, List.size_toArray, List.length_cons, List.length_nil, Nat.reduceAdd, Nat.reduceSub, Array.replicate_succ, Array.replicate_zero, List.push_toArray, List.append_toArray, List.nil_append, List.cons_append]
  gi_wp2_with (refine ⟨trivial, ?_⟩; gi_at_call 35; refine (callsIn_wide.2 (tn_any _ _ _ _ _)).mono ?_; rintro e w' ⟨rfl, rfl⟩)
  obtain ⟨wl, hwl, hsz, hbl, k0, k1, k2⟩ := loop_world w #[.int .i64 t.kind, .slice p t.args.length c] #[.int .i64 0] #[.int .i64 t.kind, .slice p t.args.length c] 26 3 26
  rw [hwl]
  have HSL : TS wl (· < w.heap.size) t.args (.slice p t.args.length c) := HS.out.keep hbl
  refine range_law (F := Fence.wide) (n := 2) rfl (by omega) (gf := 54) (lb := #[.pointer (some ⟨w.heap.size + 1 + 1, 0, none⟩)]) rfl trivial (enters_of Try.func54 (by kernel_rfl) rfl)
    (nodes_seq (w.heap.size + 1 + 1) t _ (fun b => b = w.heap.size + 1) (· < w.heap.size) (cell_of_blk k2 0) (cell_of_blk k2 1) HSL hn (fun b h => by omega) (fun b h => ⟨by omega, by omega⟩)) (fun _ => rfl) (fun b h => by omega)
    (fun pre W => W.cell? ⟨w.heap.size + 1, 0, none⟩ = some (.int .i64 (maxd pre : Nat)) ∧ W.frozen? ⟨w.heap.size + 1, 0, none⟩ = false ∧ Below w.heap.size w W)
    (fun _ _ _ => False)
    (fun pre A B h hb => ⟨(hb.cell (by show w.heap.size + 1 < _; omega)).trans h.1, (hb.frozen (by show w.heap.size + 1 < _; omega)).trans h.2.1, h.2.2.trans (hb.mono (by omega))⟩)
    (fun _ _ _ _ h _ => h) (good_keep (fun b h => by omega)) ⟨cell_of_blk k1 0, unfrozen_of_blk k1 0, hbl⟩
    (fun x a' _ => a' = { tmps := #[.agg #[.int .i64 t.kind, .slice p t.args.length c], .pointer (some ⟨w.heap.size, 0, none⟩), .int .i64 0, .pointer (some ⟨w.heap.size + 1, 0, none⟩), undef, .int .i64 (x.2.2 : Nat), .agg #[.int .i64 t.kind, .slice p t.args.length c],
      .func (.func 54) #[] #[.pointer (some ⟨w.heap.size + 1 + 1, 0, none⟩)], .agg #[.int .i64 x.1.kind, x.2.1], .int .i64 (x.2.2 : Nat), undef, undef, undef, undef], defers := [] })
    (fun _ _ _ _ _ _ h _ => h) ?assign ?body ?done ?stop
  case assign =>
    intro l x W K _ hK
    gi_wp2
    exact hK _ _ (Below.refl _ _) (by simp)
  case body =>
    rintro l pre ⟨y, sy, d⟩ a' W ⟨hc, hf, hB⟩ hpre _ rfl
    simp only at hpre ⊢
    have hd : d ≤ 1048577 ∧ maxd pre ≤ 1048577 := by
      have h1 := maxd_prefix hpre
      have h2 := maxd_walk t 1
      have h3 := t.depth_nodes
      have h4 := t.nodes_eq
      rw [maxd_snoc] at h1
      simp only at h1
      omega
    obtain ⟨hd1, hd2⟩ := hd
    have HP := Lib.hid hpre
    clear hpre k0 k1 k2
    have HE := Lib.hid (maxd_snoc pre (y, d))
    have fin : ∀ (m : Int), m = ((maxd (pre ++ [(y, d)]) : Nat) : Int) → postT (fun b => b = w.heap.size + 1) (fun pre W => W.cell? ⟨w.heap.size + 1, 0, none⟩ = some (.int .i64 (maxd pre : Nat)) ∧ W.frozen? ⟨w.heap.size + 1, 0, none⟩ = false ∧ Below w.heap.size w W) (fun _ _ _ => False) (pre ++ [(y, d)]) W .normal { tmps := #[], defers := [] } (W.setCell ⟨w.heap.size + 1, 0, none⟩ (.int .i64 m)) := by
      intro m hm
      subst hm
      exact ⟨Holds.setCell (Cb := fun b => b = w.heap.size + 1) (Holds.refl _ W) ⟨w.heap.size + 1, 0, none⟩ rfl _, World.cell?_setCell_same' _ _ _ (by rw [hc]; rfl), by rw [World.frozen?_setCell]; exact hf, hB.setCell (p := ⟨w.heap.size + 1, 0, none⟩) (by show w.heap.size ≤ w.heap.size + 1; omega) _⟩
    have HFin := Lib.hid fin
    clear fin
    by_cases hgt : (maxd pre : Int) < (d : Int)
    · gi_wp2
      exact HFin.out _ (by rw [HE.out]; omega)
    · gi_wp2
      exact HFin.out _ (by rw [HE.out]; omega)
  case done =>
    rintro D W hD ⟨hc, _, hB⟩ hK
    rw [show maxd (walkT t 1) = 1 + depthS t.args by have := maxd_walk t 1; have := depth_at t; omega] at hc
    gi_wp2
    refine ⟨by simp, .inl ⟨_, _, rfl, run_takeDeferred hK, ?_⟩⟩
    exact ⟨_, results_tmp rfl _ _ _, _, rfl, rfl, hB.trans (below_putObj _ _ _ _ (by omega))⟩
  case stop =>
    rintro D c pre W _ _ h _
    exact h.elim
#print axioms depthI_any
end Go.Proofs.Ytfpkfdkmnfpcjaa
