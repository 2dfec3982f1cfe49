/-
  The contracts of the program's termNodes, countNodes, greatestDepth at a term, and of SizeOf, DepthOf (gensizes.py writes this text).
-/
import Derived.Test.YtnciibngcaajgaaNodesM
import Derived.Test.YtnciibngcaajgaaLoopW
namespace Go.Proofs.Ytnciibngcaajgaa
open Go Go.RowKit Go.Shelf
attribute [local go_sem] Oper.semAt_some

theorem nstaysM {w w' : World} {C : Nat → Prop} {t : Tm} {v : Value} (h : NM w C t v) (hs : Stays C w w') : NM w' C t v := TM.stays h hs
abbrev encNM (x : Tm × Value × Nat) : Array Value := #[x.2.1, .int .i64 (x.2.2 : Nat)]
abbrev keyNM (x : Tm × Value × Nat) : Tm × Nat := (x.1, x.2.2)
abbrev GoodNM (C : Nat → Prop) (x : Tm × Value × Nat) (W : World) : Prop := NM W C x.1 x.2.1

/-- The iterator over t's nodes: its two boxes, and t in memory. -/
structure IterM (w : World) (t : Tm) (tp : Option Addr) (tc : Nat) (rp : Option Addr) (rc : Nat) (p : Option Addr) (c : Nat) (Bt Bp : Nat) : Prop where
  bt : w.heap[Bt]? = some (.cells (tmC t tp tc rp rc p c) 55 (0, 0))
  bp : w.heap[Bp]? = some (.cells #[.func (.func 90) #[] #[]] 103 (0, 0))
  node : TM' w (· < w.heap.size) t tp tc rp rc p c
abbrev iterM (Bt Bp : Nat) : Value := .func (.func 109) #[] #[.pointer (some ⟨Bt, 0, none⟩), .pointer (some ⟨Bp, 0, none⟩)]

theorem nodesM_seq {w wl : World} {t : Tm} {tp : Option Addr} {tc : Nat} {rp : Option Addr} {rc : Nat} {p : Option Addr} {c : Nat} {Bt Bp : Nat} (h : IterM w t tp tc rp rc p c Bt Bp) (hn : t.nodes ≤ 1048577) (hb : Below w.heap.size w wl) (Cb : Nat → Prop) (hCb : ∀ b, Cb b → w.heap.size ≤ b ∧ b < wl.heap.size) :
    SeqT Fence.wide 1 Try.prog 109 #[.pointer (some ⟨Bt, 0, none⟩), .pointer (some ⟨Bp, 0, none⟩)] encNM keyNM (GoodNM (· < w.heap.size)) Cb (walkM t 1) wl := by
  intro l J Jx W hbW hJ hY hJ0
  have hbt := (Array.getElem?_eq_some_iff.1 h.bt).1
  have hbp := (Array.getElem?_eq_some_iff.1 h.bp).1
  have hbb : Below w.heap.size w W := hb.trans (hbW.mono hb.size)
  exact nodesM_it l Bt Bp t tp tc rp rc p c Cb (· < w.heap.size) W J Jx ((hbb.block _ hbt).trans h.bt) ((hbb.block _ hbp).trans h.bp) (h.node.stays (.of_below hbb)) hn
    (fun b hc => Nat.lt_of_lt_of_le (hCb b hc).2 hbW.size) (fun b hc => ⟨fun h2 => by have := (hCb b h2).1; omega, Nat.lt_of_lt_of_le hc hbb.size⟩) hbp hJ (fun pre x v d W1 h1 h2 h3 => hY pre (x, v, d) W1 h1 h2 h3) hJ0

/-- The same, for whatever blocks hold the tree and for whatever blocks the body may write. -/
theorem nodesM_seq2 {w wl : World} {C : Nat → Prop} {t : Tm} {tp : Option Addr} {tc : Nat} {rp : Option Addr} {rc : Nat} {p : Option Addr} {c : Nat} {Bt Bp : Nat} (h : IterM w t tp tc rp rc p c Bt Bp) (hT : TM' w C t tp tc rp rc p c) (hn : t.nodes ≤ 1048577) (hb : Below w.heap.size w wl) (Cb : Nat → Prop) (hCb : ∀ b, Cb b → b < wl.heap.size) (hC : ∀ b, C b → ¬ Cb b ∧ b < w.heap.size) (hp : C Bp) :
    SeqT Fence.wide 1 Try.prog 109 #[.pointer (some ⟨Bt, 0, none⟩), .pointer (some ⟨Bp, 0, none⟩)] encNM keyNM (GoodNM C) Cb (walkM t 1) wl := by
  intro l J Jx W hbW hJ hY hJ0
  have hbt := (Array.getElem?_eq_some_iff.1 h.bt).1
  have hbp := (Array.getElem?_eq_some_iff.1 h.bp).1
  have hbb : Below w.heap.size w W := hb.trans (hbW.mono hb.size)
  exact nodesM_it l Bt Bp t tp tc rp rc p c Cb C W J Jx ((hbb.block _ hbt).trans h.bt) ((hbb.block _ hbp).trans h.bp) (hT.stays (.of_below hbb)) hn
    (fun b hc => Nat.lt_of_lt_of_le (hCb b hc) hbW.size) (fun b hc => ⟨(hC b hc).1, Nat.lt_of_lt_of_le (hC b hc).2 hbb.size⟩) hp hJ (fun pre x v d W1 h1 h2 h3 => hY pre (x, v, d) W1 h1 h2 h3) hJ0

theorem goodM_keep {C : Nat → Prop} {n : Nat} (hC : ∀ b, C b → b < n) (x : Tm × Value × Nat) (A B : World) (h : GoodNM C x A) (hb : Below n A B) : GoodNM C x B :=
  nstaysM h ⟨hb.size, fun b hc _ => hb.block b (hC b hc)⟩

def MakesIterM (t : Tm) (tp : Option Addr) (tc : Nat) (rp : Option Addr) (rc : Nat) (p : Option Addr) (c : Nat) (w : World) (e : Ending) (w' : World) : Prop := ∃ Bt Bp, e = .returned (iterM Bt Bp) ∧ IterM w' t tp tc rp rc p c Bt Bp ∧ Below w.heap.size w w' ∧ w.heap.size ≤ Bt ∧ w.heap.size ≤ Bp
set_option maxRecDepth 100000 in
theorem tnM_any {C : Nat → Prop} {t : Tm} {tp : Option Addr} {tc : Nat} {rp : Option Addr} {rc : Nat} {p : Option Addr} {c : Nat} {w : World} (h : TM' w C t tp tc rp rc p c) : Calls Try.prog 86 #[tmV t tp tc rp rc p c] w (MakesIterM t tp tc rp rc p c w) := by
  have HT := Lib.hid (h.mono (C' := (· < w.heap.size)) (fun _ _ hl => hl))
  clear h
  go_enter Try.func86, Try.ntmps86
  go_wp2
  obtain ⟨wl, hwl, hsz, hbl, _, k1, k2⟩ := box_new3 w (tmC t tp tc rp rc p c) (tmC t tp tc rp rc p c) #[.func (.func 90) #[] #[]] 55 55 103
  rw [hwl]
  go_ret
  exact ⟨_, _, rfl, ⟨k1, k2, (HT.out.stays (.of_below hbl)).mono (fun z hz _ => by omega)⟩, hbl, by omega, by omega⟩

theorem walkM_pre {pre : List (Tm × Nat)} {t : Tm} (h : pre <+: walkM t 1) (hn : t.nodes ≤ 1048577) : pre.length ≤ 1048577 := by
  have h1 := h.length_le
  rw [walkM_length] at h1
  omega

set_option maxRecDepth 100000 in
set_option maxHeartbeats 2000000 in
theorem countM_any {t : Tm} {tp : Option Addr} {tc : Nat} {rp : Option Addr} {rc : Nat} {p : Option Addr} {c : Nat} {Bt Bp : Nat} {w : World} (h : IterM w t tp tc rp rc p c Bt Bp) (hn : t.nodes ≤ 1048577) :
    Calls Try.prog 85 #[iterM Bt Bp] w (IntRet (fun r => r = ((t.nodes : Nat) : Int)) w) := by
  have HI := Lib.hid h
  clear h
  refine (callsIn_wide (n := 2)).1 ?_
  refine callsIn_of_wp_marks Try.func85 rfl trivial ?_ rfl
  simp only [Try.ntmps85, List.size_toArray, List.length_cons, List.length_nil, Nat.reduceAdd, Nat.reduceSub, Array.replicate_succ, Array.replicate_zero, List.push_toArray, List.append_toArray, List.nil_append, List.cons_append]
  gi_wp2_with fail
  obtain ⟨wl, hwl, hsz, hbl, k1⟩ := box_new w #[.int .i64 0] 3
  rw [hwl]
  refine range_law (F := Fence.wide) (n := 2) rfl (by omega) (gf := 109) (lb := #[.pointer (some ⟨Bt, 0, none⟩), .pointer (some ⟨Bp, 0, none⟩)]) rfl trivial (enters_of Try.func109 (by kernel_rfl) rfl)
    (nodesM_seq HI.out hn hbl (fun b => b = w.heap.size) (fun b h => by omega)) (fun _ => rfl) (fun b h => by omega)
    (fun pre W => W.cell? ⟨w.heap.size, 0, none⟩ = some (.int .i64 (pre.length : Nat)) ∧ W.frozen? ⟨w.heap.size, 0, none⟩ = false ∧ Below w.heap.size w W)
    (fun _ _ _ => False)
    (fun pre A B h hb => ⟨(hb.cell (by show w.heap.size < _; omega)).trans h.1, (hb.frozen (by show w.heap.size < _; omega)).trans h.2.1, h.2.2.trans (hb.mono (by omega))⟩)
    (fun _ _ _ _ h _ => h) (goodM_keep (fun b h => by omega)) ⟨cell_of_blk k1 0, unfrozen_of_blk k1 0, hbl⟩
    (fun x a' _ => a' = { tmps := #[iterM Bt Bp, undef, .int .i64 0, .pointer (some ⟨w.heap.size, 0, none⟩), iterM Bt Bp, x.2.1, .int .i64 (x.2.2 : Nat), undef, undef, undef], defers := [] })
    (fun _ _ _ _ _ _ h _ => h) ?assign ?body ?done ?stop
  case assign =>
    intro l x W K _ hK
    gi_wp2
    exact hK _ _ (Below.refl _ _) (by simp)
  case body =>
    rintro l pre x a' W ⟨hc, hf, hB⟩ hpre _ rfl
    have hlen := walkM_pre hpre hn
    rw [List.length_append, List.length_singleton] at hlen
    have HP := Lib.hid hpre
    clear hpre k1
    gi_wp2
    refine ⟨Holds.setCell (Cb := fun b => b = w.heap.size) (Holds.refl _ W) ⟨w.heap.size, 0, none⟩ rfl _, ?_, by rw [World.frozen?_setCell]; exact hf, hB.setCell (p := ⟨w.heap.size, 0, none⟩) (Nat.le_refl _) _⟩
    rw [List.length_append, List.length_singleton]
    exact World.cell?_setCell_same' _ _ _ (by rw [hc]; rfl)
  case done =>
    rintro D W hD ⟨hc, _, hB⟩ hK
    rw [walkM_length] at hc
    gi_wp2
    refine ⟨by simp, .inl ⟨_, _, rfl, run_takeDeferred hK, ?_⟩⟩
    exact ⟨_, results_tmp rfl _ _ _, _, rfl, rfl, hB.trans (below_putObj _ _ _ _ (by omega))⟩
  case stop =>
    rintro D c pre W _ _ h _
    exact h.elim
#print axioms countM_any

set_option maxRecDepth 100000 in
theorem implSizeM {C : Nat → Prop} {t : Tm} {tp : Option Addr} {tc : Nat} {rp : Option Addr} {rc : Nat} {p : Option Addr} {c : Nat} {w : World} (h : TM' w C t tp tc rp rc p c) (hn : t.nodes ≤ 1048577) :
    Calls Try.prog 49 #[tmV t tp tc rp rc p c] w (IntRet (fun r => r = ((t.nodes : Nat) : Int)) w) := by
  have HT := Lib.hid (fun (A : Array Value) (T : TypeId) => tnM_any (h.stays (.of_below ((Below.refl w.heap.size w).alloc (Nat.le_refl _) (.cells A T)))))
  clear h
  go_enter Try.func49, Try.ntmps49
  go_wp2_with fail
  refine (HT.out _ _).mono ?_
  rintro e w1 ⟨Bt, Bp, rfl, hI, hb, -⟩
  have HI := Lib.hid hI
  have HB := Lib.hid hb
  clear hI hb
  go_wp2_with fail
  refine (countM_any HI.out hn).mono ?_
  rintro e w2 ⟨r, rfl, rfl, hb2⟩
  have HB2 := Lib.hid hb2
  clear hb2
  go_wp2_with fail
  go_ret
  exact ⟨_, rfl, rfl, (((Below.refl w.heap.size w).alloc (Nat.le_refl _) _).trans (HB.out.mono (by simp))).trans (HB2.out.mono (by have := HB.out.size; simp at this; omega))⟩

/-- The greatest depth so far. -/
def maxdM : List (Tm × Nat) → Nat
  | [] => 0
  | e :: l => max e.2 (maxdM l)
theorem maxdM_append (a b : List (Tm × Nat)) : maxdM (a ++ b) = max (maxdM a) (maxdM b) := by
  induction a with
  | nil => simp [maxdM]
  | cons e a ih => simp only [List.cons_append, maxdM, ih]; omega
theorem maxdM_snoc (a : List (Tm × Nat)) (e : Tm × Nat) : maxdM (a ++ [e]) = max (maxdM a) e.2 := by rw [maxdM_append]; simp [maxdM]
theorem maxdM_prefix {a b : List (Tm × Nat)} (h : a <+: b) : maxdM a ≤ maxdM b := by
  obtain ⟨c, rfl⟩ := h
  rw [maxdM_append]
  omega
theorem maxdM_le {l : List (Tm × Nat)} {n : Nat} : maxdM l ≤ n ↔ ∀ e ∈ l, e.2 ≤ n := by
  induction l with
  | nil => simp [maxdM]
  | cons e l ih =>
    rw [List.forall_mem_cons, ← ih]
    simp only [maxdM]
    omega
mutual
theorem maxdM_walk : ∀ (t : Tm) (d : Nat), maxdM (walkM t d) + 1 = d + t.depth
  | .mk k a b n t r ts, d => by
    have h := maxdM_walkS ts d
    simp only [walkM, maxdM, Tm.depth]
    omega
theorem maxdM_walkS : ∀ (ts : List Tm) (d : Nat), max d (maxdM (walkSM ts (d + 1))) = d + depthM ts
  | [], d => by simp [walkSM, maxdM, depthM]
  | t :: ts, d => by
    have h1 := maxdM_walkS ts d
    have h2 := maxdM_walk t (d + 1)
    simp only [walkSM, maxdM_append, depthM]
    omega
end

set_option maxRecDepth 100000 in
set_option maxHeartbeats 2000000 in
theorem greatestM_any {t : Tm} {tp : Option Addr} {tc : Nat} {rp : Option Addr} {rc : Nat} {p : Option Addr} {c : Nat} {Bt Bp : Nat} {w : World} (h : IterM w t tp tc rp rc p c Bt Bp) (hn : t.nodes ≤ 1048577) :
    Calls Try.prog 88 #[iterM Bt Bp] w (IntRet (fun r => r = ((t.depth : Nat) : Int)) w) := by
  have HI := Lib.hid h
  clear h
  refine (callsIn_wide (n := 2)).1 ?_
  refine callsIn_of_wp_marks Try.func88 rfl trivial ?_ rfl
  simp only [Try.ntmps88, List.size_toArray, List.length_cons, List.length_nil, Nat.reduceAdd, Nat.reduceSub, Array.replicate_succ, Array.replicate_zero, List.push_toArray, List.append_toArray, List.nil_append, List.cons_append]
  gi_wp2_with fail
  obtain ⟨wl, hwl, hsz, hbl, k1⟩ := box_new w #[.int .i64 0] 3
  rw [hwl]
  refine range_law (F := Fence.wide) (n := 2) rfl (by omega) (gf := 109) (lb := #[.pointer (some ⟨Bt, 0, none⟩), .pointer (some ⟨Bp, 0, none⟩)]) rfl trivial (enters_of Try.func109 (by kernel_rfl) rfl)
    (nodesM_seq HI.out hn hbl (fun b => b = w.heap.size) (fun b h => by omega)) (fun _ => rfl) (fun b h => by omega)
    (fun pre W => W.cell? ⟨w.heap.size, 0, none⟩ = some (.int .i64 (maxdM pre : Nat)) ∧ W.frozen? ⟨w.heap.size, 0, none⟩ = false ∧ Below w.heap.size w W)
    (fun _ _ _ => False)
    (fun pre A B h hb => ⟨(hb.cell (by show w.heap.size < _; omega)).trans h.1, (hb.frozen (by show w.heap.size < _; omega)).trans h.2.1, h.2.2.trans (hb.mono (by omega))⟩)
    (fun _ _ _ _ h _ => h) (goodM_keep (fun b h => by omega)) ⟨cell_of_blk k1 0, unfrozen_of_blk k1 0, hbl⟩
    (fun x a' _ => a' = { tmps := #[iterM Bt Bp, undef, .int .i64 0, .pointer (some ⟨w.heap.size, 0, none⟩), undef, .int .i64 (x.2.2 : Nat), iterM Bt Bp, x.2.1, .int .i64 (x.2.2 : Nat), undef, undef, undef, undef], defers := [] })
    (fun _ _ _ _ _ _ h _ => h) ?assign ?body ?done ?stop
  case assign =>
    intro l x W K _ hK
    gi_wp2
    exact hK _ _ (Below.refl _ _) (by simp)
  case body =>
    rintro l pre ⟨y, v, d⟩ a' W ⟨hc, hf, hB⟩ hpre _ rfl
    simp only at hpre ⊢
    have hd : d ≤ 1048577 ∧ maxdM pre ≤ 1048577 := by
      have h1 := maxdM_prefix hpre
      have h2 := maxdM_walk t 1
      have h3 := t.depth_nodes
      rw [maxdM_snoc] at h1
      simp only at h1
      omega
    obtain ⟨hd1, hd2⟩ := hd
    have HP := Lib.hid hpre
    clear hpre k1
    have HE := Lib.hid (maxdM_snoc pre (y, d))
    have fin : ∀ (m : Int), m = ((maxdM (pre ++ [(y, d)]) : Nat) : Int) → postT (fun b => b = w.heap.size) (fun pre W => W.cell? ⟨w.heap.size, 0, none⟩ = some (.int .i64 (maxdM pre : Nat)) ∧ W.frozen? ⟨w.heap.size, 0, none⟩ = false ∧ Below w.heap.size w W) (fun _ _ _ => False) (pre ++ [(y, d)]) W .normal { tmps := #[], defers := [] } (W.setCell ⟨w.heap.size, 0, none⟩ (.int .i64 m)) := by
      intro m hm
      subst hm
      exact ⟨Holds.setCell (Cb := fun b => b = w.heap.size) (Holds.refl _ W) ⟨w.heap.size, 0, none⟩ rfl _, World.cell?_setCell_same' _ _ _ (by rw [hc]; rfl), by rw [World.frozen?_setCell]; exact hf, hB.setCell (p := ⟨w.heap.size, 0, none⟩) (Nat.le_refl _) _⟩
    have HFin := Lib.hid fin
    clear fin
    by_cases hgt : (maxdM pre : Int) < (d : Int)
    · gi_wp2
      exact HFin.out _ (by rw [HE.out]; omega)
    · gi_wp2
      exact HFin.out _ (by rw [HE.out]; omega)
  case done =>
    rintro D W hD ⟨hc, _, hB⟩ hK
    rw [show maxdM (walkM t 1) = t.depth by have := maxdM_walk t 1; omega] at hc
    gi_wp2
    refine ⟨by simp, .inl ⟨_, _, rfl, run_takeDeferred hK, ?_⟩⟩
    exact ⟨_, results_tmp rfl _ _ _, _, rfl, rfl, hB.trans (below_putObj _ _ _ _ (by omega))⟩
  case stop =>
    rintro D c pre W _ _ h _
    exact h.elim
#print axioms greatestM_any

set_option maxRecDepth 100000 in
theorem implDepthM {C : Nat → Prop} {t : Tm} {tp : Option Addr} {tc : Nat} {rp : Option Addr} {rc : Nat} {p : Option Addr} {c : Nat} {w : World} (h : TM' w C t tp tc rp rc p c) (hn : t.nodes ≤ 1048577) :
    Calls Try.prog 52 #[tmV t tp tc rp rc p c] w (IntRet (fun r => r = ((t.depth : Nat) : Int)) w) := by
  have HT := Lib.hid (fun (A : Array Value) (T : TypeId) => tnM_any (h.stays (.of_below ((Below.refl w.heap.size w).alloc (Nat.le_refl _) (.cells A T)))))
  clear h
  go_enter Try.func52, Try.ntmps52
  go_wp2_with fail
  refine (HT.out _ _).mono ?_
  rintro e w1 ⟨Bt, Bp, rfl, hI, hb, -⟩
  have HI := Lib.hid hI
  have HB := Lib.hid hb
  clear hI hb
  go_wp2_with fail
  refine (greatestM_any HI.out hn).mono ?_
  rintro e w2 ⟨r, rfl, rfl, hb2⟩
  have HB2 := Lib.hid hb2
  clear hb2
  go_wp2_with fail
  go_ret
  exact ⟨_, rfl, rfl, (((Below.refl w.heap.size w).alloc (Nat.le_refl _) _).trans (HB.out.mono (by simp))).trans (HB2.out.mono (by have := HB.out.size; simp at this; omega))⟩

theorem sizeMI_any {C : Nat → Prop} {t : Tm} {v : Value} {w : World} (h : TM w C t v) (hn : t.wt ≤ 1048576) :
    Calls Try.prog 49 #[v] w (IntRet (fun r => r = ((t.nodes : Nat) : Int)) w) := by
  obtain ⟨tp, tc, rp, rc, p, c, rfl, hT⟩ := h
  exact implSizeM hT (by have := t.nodes_wt; omega)
theorem depthMI_any {C : Nat → Prop} {t : Tm} {v : Value} {w : World} (h : TM w C t v) (hn : t.wt ≤ 1048576) :
    Calls Try.prog 52 #[v] w (IntRet (fun r => r = ((t.depth : Nat) : Int)) w) := by
  obtain ⟨tp, tc, rp, rc, p, c, rfl, hT⟩ := h
  exact implDepthM hT (by have := t.nodes_wt; omega)
end Go.Proofs.Ytnciibngcaajgaa

