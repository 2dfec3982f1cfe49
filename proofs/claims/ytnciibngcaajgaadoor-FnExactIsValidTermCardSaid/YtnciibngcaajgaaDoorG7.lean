/-
  Several texts of the proof in one (each says below what it holds): SizesM TmWalk OpArI FormA IsNameI.
-/
import Derived.Test.YtnciibngcaajgaaDoorG6
import Derived.Test.YtnciibngcaajgaaDoorG4
import Derived.Deep.RegionHeld3
/- SizesM: The contracts of the program's termNodes, countNodes, greatestDepth at a term, and of SizeOf, DepthOf (gensizes.py writes this text). -/
namespace Go.Proofs.YtnciibngcaajgaaDoor
open Go Go.RowKit Go.Shelf
attribute [local go_sem] Oper.semAt_some

theorem nstaysM {w w' : World} {C : Nat → Prop} {t : Tm} {v : Value} (h : NM w C t v) (hs : Stays C w w') : NM w' C t v := TM.stays h hs
abbrev encNM (x : Tm × Value × Nat) : Array Value := #[x.2.1, .int .i64 (x.2.2 : Nat)]
abbrev keyNM (x : Tm × Value × Nat) : Tm × Nat := (x.1, x.2.2)
abbrev GoodNM (C : Nat → Prop) (x : Tm × Value × Nat) (W : World) : Prop := NM W C x.1 x.2.1

/-- The iterator over t's nodes: its two boxes, and t in memory. -/
structure IterM (w : World) (t : Tm) (tp : Option Addr) (tc : Nat) (rp : Option Addr) (rc : Nat) (p : Option Addr) (c : Nat) (Bt Bp : Nat) : Prop where
  bt : w.heap[Bt]? = some (.cells (tmC t tp tc rp rc p c) 29 (0, 0))
  bp : w.heap[Bp]? = some (.cells #[.func (.func 39) #[] #[]] 62 (0, 0))
  node : TM' w (· < w.heap.size) t tp tc rp rc p c
abbrev iterM (Bt Bp : Nat) : Value := .func (.func 74) #[] #[.pointer (some ⟨Bt, 0, none⟩), .pointer (some ⟨Bp, 0, none⟩)]

theorem nodesM_seq {w wl : World} {t : Tm} {tp : Option Addr} {tc : Nat} {rp : Option Addr} {rc : Nat} {p : Option Addr} {c : Nat} {Bt Bp : Nat} (h : IterM w t tp tc rp rc p c Bt Bp) (hn : t.nodes ≤ 1048577) (hb : Below w.heap.size w wl) (Cb : Nat → Prop) (hCb : ∀ b, Cb b → w.heap.size ≤ b ∧ b < wl.heap.size) :
    SeqT Fence.wide 1 Tryd.prog 74 #[.pointer (some ⟨Bt, 0, none⟩), .pointer (some ⟨Bp, 0, none⟩)] encNM keyNM (GoodNM (· < w.heap.size)) Cb (walkM t 1) wl := by
  intro l J Jx W hbW hJ hY hJ0
  have hbt := (Array.getElem?_eq_some_iff.1 h.bt).1
  have hbp := (Array.getElem?_eq_some_iff.1 h.bp).1
  have hbb : Below w.heap.size w W := hb.trans (hbW.mono hb.size)
  exact nodesM_it l Bt Bp t tp tc rp rc p c Cb (· < w.heap.size) W J Jx ((hbb.block _ hbt).trans h.bt) ((hbb.block _ hbp).trans h.bp) (h.node.stays (.of_below hbb)) hn
    (fun b hc => Nat.lt_of_lt_of_le (hCb b hc).2 hbW.size) (fun b hc => ⟨fun h2 => by have := (hCb b h2).1; omega, Nat.lt_of_lt_of_le hc hbb.size⟩) hbp hJ (fun pre x v d W1 h1 h2 h3 => hY pre (x, v, d) W1 h1 h2 h3) hJ0

/-- The same, for whatever blocks hold the tree and for whatever blocks the body may write. -/
theorem nodesM_seq2 {w wl : World} {C : Nat → Prop} {t : Tm} {tp : Option Addr} {tc : Nat} {rp : Option Addr} {rc : Nat} {p : Option Addr} {c : Nat} {Bt Bp : Nat} (h : IterM w t tp tc rp rc p c Bt Bp) (hT : TM' w C t tp tc rp rc p c) (hn : t.nodes ≤ 1048577) (hb : Below w.heap.size w wl) (Cb : Nat → Prop) (hCb : ∀ b, Cb b → b < wl.heap.size) (hC : ∀ b, C b → ¬ Cb b ∧ b < w.heap.size) (hp : C Bp) :
    SeqT Fence.wide 1 Tryd.prog 74 #[.pointer (some ⟨Bt, 0, none⟩), .pointer (some ⟨Bp, 0, none⟩)] encNM keyNM (GoodNM C) Cb (walkM t 1) wl := by
  intro l J Jx W hbW hJ hY hJ0
  have hbt := (Array.getElem?_eq_some_iff.1 h.bt).1
  have hbp := (Array.getElem?_eq_some_iff.1 h.bp).1
  have hbb : Below w.heap.size w W := hb.trans (hbW.mono hb.size)
  exact nodesM_it l Bt Bp t tp tc rp rc p c Cb C W J Jx ((hbb.block _ hbt).trans h.bt) ((hbb.block _ hbp).trans h.bp) (hT.stays (.of_below hbb)) hn
    (fun b hc => Nat.lt_of_lt_of_le (hCb b hc) hbW.size) (fun b hc => ⟨(hC b hc).1, Nat.lt_of_lt_of_le (hC b hc).2 hbb.size⟩) hp hJ (fun pre x v d W1 h1 h2 h3 => hY pre (x, v, d) W1 h1 h2 h3) hJ0

theorem goodM_keep {C : Nat → Prop} {n : Nat} (hC : ∀ b, C b → b < n) (x : Tm × Value × Nat) (A B : World) (h : GoodNM C x A) (hb : Below n A B) : GoodNM C x B :=
  nstaysM h ⟨hb.size, fun b hc _ => hb.block b (hC b hc)⟩

def MakesIterM (t : Tm) (tp : Option Addr) (tc : Nat) (rp : Option Addr) (rc : Nat) (p : Option Addr) (c : Nat) (w : World) (e : Ending) (w' : World) : Prop := ∃ Bt Bp, e = .returned (iterM Bt Bp) ∧ IterM w' t tp tc rp rc p c Bt Bp ∧ Below w.heap.size w w' ∧ w.heap.size ≤ Bt ∧ w.heap.size ≤ Bp
set_option maxRecDepth 100000 in
theorem tnM_any {C : Nat → Prop} {t : Tm} {tp : Option Addr} {tc : Nat} {rp : Option Addr} {rc : Nat} {p : Option Addr} {c : Nat} {w : World} (h : TM' w C t tp tc rp rc p c) : Calls Tryd.prog 28 #[tmV t tp tc rp rc p c] w (MakesIterM t tp tc rp rc p c w) := by
  have HT := Lib.hid (h.mono (C' := (· < w.heap.size)) (fun _ _ hl => hl))
  clear h
  go_enter Tryd.func28, Tryd.ntmps28
  go_wp2
  obtain ⟨wl, hwl, hsz, hbl, _, k1, k2⟩ := box_new3 w (tmC t tp tc rp rc p c) (tmC t tp tc rp rc p c) #[.func (.func 39) #[] #[]] 29 29 62
  rw [hwl]
  go_ret
  exact ⟨_, _, rfl, ⟨k1, k2, (HT.out.stays (.of_below hbl)).mono (fun z hz _ => by omega)⟩, hbl, by omega, by omega⟩

theorem walkM_pre {pre : List (Tm × Nat)} {t : Tm} (h : pre <+: walkM t 1) (hn : t.nodes ≤ 1048577) : pre.length ≤ 1048577 := by
  have h1 := h.length_le
  rw [walkM_length] at h1
  omega

set_option maxRecDepth 100000 in
set_option maxHeartbeats 2000000 in
theorem countM_any {t : Tm} {tp : Option Addr} {tc : Nat} {rp : Option Addr} {rc : Nat} {p : Option Addr} {c : Nat} {Bt Bp : Nat} {w : World} (h : IterM w t tp tc rp rc p c Bt Bp) (hn : t.nodes ≤ 1048577) :
    Calls Tryd.prog 27 #[iterM Bt Bp] w (IntRet (fun r => r = ((t.nodes : Nat) : Int)) w) := by
  have HI := Lib.hid h
  clear h
  refine (callsIn_wide (n := 2)).1 ?_
  refine callsIn_of_wp_marks Tryd.func27 rfl trivial ?_ rfl
  simp only [Tryd.ntmps27, List.size_toArray, List.length_cons, List.length_nil, Nat.reduceAdd, Nat.reduceSub, Array.replicate_succ, Array.replicate_zero, List.push_toArray, List.append_toArray, List.nil_append, List.cons_append]
  gi_wp2_with fail
  obtain ⟨wl, hwl, hsz, hbl, k1⟩ := box_new w #[.int .i64 0] 3
  rw [hwl]
  refine range_law (F := Fence.wide) (n := 2) rfl (by omega) (gf := 74) (lb := #[.pointer (some ⟨Bt, 0, none⟩), .pointer (some ⟨Bp, 0, none⟩)]) rfl trivial (enters_of Tryd.func74 (by kernel_rfl) rfl)
    (nodesM_seq HI.out hn hbl (fun b => b = w.heap.size) (fun b h => by omega)) (fun _ => rfl) (fun b h => by omega)
    (fun pre W => W.cell? ⟨w.heap.size, 0, none⟩ = some (.int .i64 (pre.length : Nat)) ∧ W.frozen? ⟨w.heap.size, 0, none⟩ = false ∧ Below w.heap.size w W)
    (fun _ _ _ => False)
    (fun pre A B h hb => ⟨(hb.cell (by show w.heap.size < _; omega)).trans h.1, (hb.frozen (by show w.heap.size < _; omega)).trans h.2.1, h.2.2.trans (hb.mono (by omega))⟩)
    (fun _ _ _ _ h _ => h) (goodM_keep (fun b h => by omega)) ⟨cell_of_blk k1 0, unfrozen_of_blk k1 0, hbl⟩
    (fun x a' _ => a' = { tmps := #[iterM Bt Bp, undef, .int .i64 0, .pointer (some ⟨w.heap.size, 0, none⟩), iterM Bt Bp, x.2.1, .int .i64 (x.2.2 : Nat), undef, undef, undef], defers := [] })
    (fun _ _ _ _ _ _ h _ => h) ?assign ?body ?done ?stop
  case assign =>
    intro l x W K _ hK
    gi_wp2
    exact hK _ _ (Below.refl _ _) (by simp)
  case body =>
    rintro l pre x a' W ⟨hc, hf, hB⟩ hpre _ rfl
    have hlen := walkM_pre hpre hn
    rw [List.length_append, List.length_singleton] at hlen
    have HP := Lib.hid hpre
    clear hpre k1
    gi_wp2
    refine ⟨Holds.setCell (Cb := fun b => b = w.heap.size) (Holds.refl _ W) ⟨w.heap.size, 0, none⟩ rfl _, ?_, by rw [World.frozen?_setCell]; exact hf, hB.setCell (p := ⟨w.heap.size, 0, none⟩) (Nat.le_refl _) _⟩
    rw [List.length_append, List.length_singleton]
    exact World.cell?_setCell_same' _ _ _ (by rw [hc]; rfl)
  case done =>
    rintro D W hD ⟨hc, _, hB⟩ hK
    rw [walkM_length] at hc
    gi_wp2
    refine ⟨by simp, .inl ⟨_, _, rfl, run_takeDeferred hK, ?_⟩⟩
    exact ⟨_, results_tmp rfl _ _ _, _, rfl, rfl, hB.trans (below_putObj _ _ _ _ (by omega))⟩
  case stop =>
    rintro D c pre W _ _ h _
    exact h.elim
#print axioms countM_any

set_option maxRecDepth 100000 in
theorem implSizeM {C : Nat → Prop} {t : Tm} {tp : Option Addr} {tc : Nat} {rp : Option Addr} {rc : Nat} {p : Option Addr} {c : Nat} {w : World} (h : TM' w C t tp tc rp rc p c) (hn : t.nodes ≤ 1048577) :
    Calls Tryd.prog 8 #[tmV t tp tc rp rc p c] w (IntRet (fun r => r = ((t.nodes : Nat) : Int)) w) := by
  have HT := Lib.hid (fun (A : Array Value) (T : TypeId) => tnM_any (h.stays (.of_below ((Below.refl w.heap.size w).alloc (Nat.le_refl _) (.cells A T)))))
  clear h
  go_enter Tryd.func8, Tryd.ntmps8
  go_wp2_with fail
  refine (HT.out _ _).mono ?_
  rintro e w1 ⟨Bt, Bp, rfl, hI, hb, -⟩
  have HI := Lib.hid hI
  have HB := Lib.hid hb
  clear hI hb
  go_wp2_with fail
  refine (countM_any HI.out hn).mono ?_
  rintro e w2 ⟨r, rfl, rfl, hb2⟩
  have HB2 := Lib.hid hb2
  clear hb2
  go_wp2_with fail
  go_ret
  exact ⟨_, rfl, rfl, (((Below.refl w.heap.size w).alloc (Nat.le_refl _) _).trans (HB.out.mono (by simp))).trans (HB2.out.mono (by have := HB.out.size; simp at this; omega))⟩

/-- The greatest depth so far. -/
def maxdM : List (Tm × Nat) → Nat
  | [] => 0
  | e :: l => max e.2 (maxdM l)
theorem maxdM_append (a b : List (Tm × Nat)) : maxdM (a ++ b) = max (maxdM a) (maxdM b) := by
  induction a with
  | nil => simp [maxdM]
  | cons e a ih => simp only [List.cons_append, maxdM, ih]; omega
theorem maxdM_snoc (a : List (Tm × Nat)) (e : Tm × Nat) : maxdM (a ++ [e]) = max (maxdM a) e.2 := by rw [maxdM_append]; simp [maxdM]
theorem maxdM_prefix {a b : List (Tm × Nat)} (h : a <+: b) : maxdM a ≤ maxdM b := by
  obtain ⟨c, rfl⟩ := h
  rw [maxdM_append]
  omega
theorem maxdM_le {l : List (Tm × Nat)} {n : Nat} : maxdM l ≤ n ↔ ∀ e ∈ l, e.2 ≤ n := by
  induction l with
  | nil => simp [maxdM]
  | cons e l ih =>
    rw [List.forall_mem_cons, ← ih]
    simp only [maxdM]
    omega
mutual
theorem maxdM_walk : ∀ (t : Tm) (d : Nat), maxdM (walkM t d) + 1 = d + t.depth
  | .mk k a b n t r ts, d => by
    have h := maxdM_walkS ts d
    simp only [walkM, maxdM, Tm.depth]
    omega
theorem maxdM_walkS : ∀ (ts : List Tm) (d : Nat), max d (maxdM (walkSM ts (d + 1))) = d + depthM ts
  | [], d => by simp [walkSM, maxdM, depthM]
  | t :: ts, d => by
    have h1 := maxdM_walkS ts d
    have h2 := maxdM_walk t (d + 1)
    simp only [walkSM, maxdM_append, depthM]
    omega
end

set_option maxRecDepth 100000 in
set_option maxHeartbeats 2000000 in
theorem greatestM_any {t : Tm} {tp : Option Addr} {tc : Nat} {rp : Option Addr} {rc : Nat} {p : Option Addr} {c : Nat} {Bt Bp : Nat} {w : World} (h : IterM w t tp tc rp rc p c Bt Bp) (hn : t.nodes ≤ 1048577) :
    Calls Tryd.prog 29 #[iterM Bt Bp] w (IntRet (fun r => r = ((t.depth : Nat) : Int)) w) := by
  have HI := Lib.hid h
  clear h
  refine (callsIn_wide (n := 2)).1 ?_
  refine callsIn_of_wp_marks Tryd.func29 rfl trivial ?_ rfl
  simp only [Tryd.ntmps29, List.size_toArray, List.length_cons, List.length_nil, Nat.reduceAdd, Nat.reduceSub, Array.replicate_succ, Array.replicate_zero, List.push_toArray, List.append_toArray, List.nil_append, List.cons_append]
  gi_wp2_with fail
  obtain ⟨wl, hwl, hsz, hbl, k1⟩ := box_new w #[.int .i64 0] 3
  rw [hwl]
  refine range_law (F := Fence.wide) (n := 2) rfl (by omega) (gf := 74) (lb := #[.pointer (some ⟨Bt, 0, none⟩), .pointer (some ⟨Bp, 0, none⟩)]) rfl trivial (enters_of Tryd.func74 (by kernel_rfl) rfl)
    (nodesM_seq HI.out hn hbl (fun b => b = w.heap.size) (fun b h => by omega)) (fun _ => rfl) (fun b h => by omega)
    (fun pre W => W.cell? ⟨w.heap.size, 0, none⟩ = some (.int .i64 (maxdM pre : Nat)) ∧ W.frozen? ⟨w.heap.size, 0, none⟩ = false ∧ Below w.heap.size w W)
    (fun _ _ _ => False)
    (fun pre A B h hb => ⟨(hb.cell (by show w.heap.size < _; omega)).trans h.1, (hb.frozen (by show w.heap.size < _; omega)).trans h.2.1, h.2.2.trans (hb.mono (by omega))⟩)
    (fun _ _ _ _ h _ => h) (goodM_keep (fun b h => by omega)) ⟨cell_of_blk k1 0, unfrozen_of_blk k1 0, hbl⟩
    (fun x a' _ => a' = { tmps := #[iterM Bt Bp, undef, .int .i64 0, .pointer (some ⟨w.heap.size, 0, none⟩), undef, .int .i64 (x.2.2 : Nat), iterM Bt Bp, x.2.1, .int .i64 (x.2.2 : Nat), undef, undef, undef, undef], defers := [] })
    (fun _ _ _ _ _ _ h _ => h) ?assign ?body ?done ?stop
  case assign =>
    intro l x W K _ hK
    gi_wp2
    exact hK _ _ (Below.refl _ _) (by simp)
  case body =>
    rintro l pre ⟨y, v, d⟩ a' W ⟨hc, hf, hB⟩ hpre _ rfl
    simp only at hpre ⊢
    have hd : d ≤ 1048577 ∧ maxdM pre ≤ 1048577 := by
      have h1 := maxdM_prefix hpre
      have h2 := maxdM_walk t 1
      have h3 := t.depth_nodes
      rw [maxdM_snoc] at h1
      simp only at h1
      omega
    obtain ⟨hd1, hd2⟩ := hd
    have HP := Lib.hid hpre
    clear hpre k1
    have HE := Lib.hid (maxdM_snoc pre (y, d))
    have fin : ∀ (m : Int), m = ((maxdM (pre ++ [(y, d)]) : Nat) : Int) → postT (fun b => b = w.heap.size) (fun pre W => W.cell? ⟨w.heap.size, 0, none⟩ = some (.int .i64 (maxdM pre : Nat)) ∧ W.frozen? ⟨w.heap.size, 0, none⟩ = false ∧ Below w.heap.size w W) (fun _ _ _ => False) (pre ++ [(y, d)]) W .normal { tmps := #[], defers := [] } (W.setCell ⟨w.heap.size, 0, none⟩ (.int .i64 m)) := by
      intro m hm
      subst hm
      exact ⟨Holds.setCell (Cb := fun b => b = w.heap.size) (Holds.refl _ W) ⟨w.heap.size, 0, none⟩ rfl _, World.cell?_setCell_same' _ _ _ (by rw [hc]; rfl), by rw [World.frozen?_setCell]; exact hf, hB.setCell (p := ⟨w.heap.size, 0, none⟩) (Nat.le_refl _) _⟩
    have HFin := Lib.hid fin
    clear fin
    by_cases hgt : (maxdM pre : Int) < (d : Int)
    · gi_wp2
      exact HFin.out _ (by rw [HE.out]; omega)
    · gi_wp2
      exact HFin.out _ (by rw [HE.out]; omega)
  case done =>
    rintro D W hD ⟨hc, _, hB⟩ hK
    rw [show maxdM (walkM t 1) = t.depth by have := maxdM_walk t 1; omega] at hc
    gi_wp2
    refine ⟨by simp, .inl ⟨_, _, rfl, run_takeDeferred hK, ?_⟩⟩
    exact ⟨_, results_tmp rfl _ _ _, _, rfl, rfl, hB.trans (below_putObj _ _ _ _ (by omega))⟩
  case stop =>
    rintro D c pre W _ _ h _
    exact h.elim
#print axioms greatestM_any

set_option maxRecDepth 100000 in
theorem implDepthM {C : Nat → Prop} {t : Tm} {tp : Option Addr} {tc : Nat} {rp : Option Addr} {rc : Nat} {p : Option Addr} {c : Nat} {w : World} (h : TM' w C t tp tc rp rc p c) (hn : t.nodes ≤ 1048577) :
    Calls Tryd.prog 9 #[tmV t tp tc rp rc p c] w (IntRet (fun r => r = ((t.depth : Nat) : Int)) w) := by
  have HT := Lib.hid (fun (A : Array Value) (T : TypeId) => tnM_any (h.stays (.of_below ((Below.refl w.heap.size w).alloc (Nat.le_refl _) (.cells A T)))))
  clear h
  go_enter Tryd.func9, Tryd.ntmps9
  go_wp2_with fail
  refine (HT.out _ _).mono ?_
  rintro e w1 ⟨Bt, Bp, rfl, hI, hb, -⟩
  have HI := Lib.hid hI
  have HB := Lib.hid hb
  clear hI hb
  go_wp2_with fail
  refine (greatestM_any HI.out hn).mono ?_
  rintro e w2 ⟨r, rfl, rfl, hb2⟩
  have HB2 := Lib.hid hb2
  clear hb2
  go_wp2_with fail
  go_ret
  exact ⟨_, rfl, rfl, (((Below.refl w.heap.size w).alloc (Nat.le_refl _) _).trans (HB.out.mono (by simp))).trans (HB2.out.mono (by have := HB.out.size; simp at this; omega))⟩

theorem sizeMI_any {C : Nat → Prop} {t : Tm} {v : Value} {w : World} (h : TM w C t v) (hn : t.wt ≤ 1048576) :
    Calls Tryd.prog 8 #[v] w (IntRet (fun r => r = ((t.nodes : Nat) : Int)) w) := by
  obtain ⟨tp, tc, rp, rc, p, c, rfl, hT⟩ := h
  exact implSizeM hT (by have := t.nodes_wt; omega)
theorem depthMI_any {C : Nat → Prop} {t : Tm} {v : Value} {w : World} (h : TM w C t v) (hn : t.wt ≤ 1048576) :
    Calls Tryd.prog 9 #[v] w (IntRet (fun r => r = ((t.depth : Nat) : Int)) w) := by
  obtain ⟨tp, tc, rp, rc, p, c, rfl, hT⟩ := h
  exact implDepthM hT (by have := t.nodes_wt; omega)
end Go.Proofs.YtnciibngcaajgaaDoor
/- TmWalk: A term is of the forms of chapter 5 just when each of its nodes is. -/
namespace Go.Proofs.YtnciibngcaajgaaDoor
open Go Go.RowKit

mutual
theorem isT_walk : ∀ (t : Tm) (d : Nat), t.IsT ↔ ∀ e ∈ walkM t d, e.1.NodeOk
  | .mk k a b n t r ts, d => by
    have h := isTS_walk ts (d + 1)
    rw [Tm.IsT_eq]
    show IsTS ts ∧ _ ∧ _ ↔ _
    rw [h]
    simp only [walkM, List.forall_mem_cons]
    exact And.comm
theorem isTS_walk : ∀ (ts : List Tm) (d : Nat), IsTS ts ↔ ∀ e ∈ walkSM ts d, e.1.NodeOk
  | [], d => by simp [IsTS, walkSM]
  | t :: ts, d => by
    have h1 := isTS_walk ts d
    have h2 := isT_walk t d
    simp only [IsTS, walkSM, List.forall_mem_append, h1, h2]
end
theorem validM_walk (t : Tm) {ok : Tm → Bool} (hok : ∀ x, ok x = true ↔ x.NodeOk) : t.Valid ↔ (∀ e ∈ walkM t 1, ok e.1 = true ∧ e.2 ≤ 20) ∧ t.nodes ≤ 80 := by
  have h1 := isT_walk t 1
  have h2 : t.depth ≤ 20 ↔ ∀ e ∈ walkM t 1, e.2 ≤ 20 := by
    rw [← maxdM_le]
    have := maxdM_walk t 1
    omega
  unfold Tm.Valid
  rw [h1, h2]
  constructor
  · rintro ⟨a, b, c⟩
    exact ⟨fun e he => ⟨(hok _).2 (c e he), b e he⟩, a⟩
  · rintro ⟨a, b⟩
    exact ⟨b, fun e he => (a e he).2, fun e he => (hok _).1 (a e he).1⟩
/-- All so far are right. -/
def AllOk (pre : List (Tm × Nat)) : Prop := ∀ e ∈ pre, e.1.NodeOk
theorem AllOk.next {pre : List (Tm × Nat)} {x : Tm} {d : Nat} (h : AllOk pre) (hx : x.NodeOk) : AllOk (pre ++ [(x, d)]) := by
  intro e he
  rcases List.mem_append.1 he with he | he
  · exact h e he
  · simp only [List.mem_singleton] at he; subst he; exact hx
theorem isT_of {t : Tm} (h : AllOk (walkM t 1)) : t.IsT := (isT_walk t 1).2 h
theorem not_isT_at {t x : Tm} {d : Nat} {pre : List (Tm × Nat)} (h : pre ++ [(x, d)] <+: walkM t 1) (hx : ¬ x.NodeOk) : ¬ t.IsT := fun hh =>
  hx ((isT_walk t 1).1 hh (x, d) (h.subset (by simp)))
mutual
theorem wt_walk : ∀ (t : Tm) (d : Nat) (e : Tm × Nat), e ∈ walkM t d → e.1.wt ≤ t.wt
  | .mk k a b n t r ts, d, e, h => by
    rw [walkM] at h
    rcases List.mem_cons.1 h with rfl | h
    · exact Nat.le_refl _
    · have h1 := wt_walkS ts (d + 1) e h
      simp only [Tm.wt]
      omega
theorem wt_walkS : ∀ (ts : List Tm) (d : Nat) (e : Tm × Nat), e ∈ walkSM ts d → e.1.wt ≤ wtS ts
  | [], d, e, h => by simp [walkSM] at h
  | t :: ts, d, e, h => by
    rw [walkSM] at h
    rcases List.mem_append.1 h with h | h
    · have h1 := wt_walk t d e h
      simp only [wtS]
      omega
    · have h1 := wt_walkS ts d e h
      simp only [wtS]
      omega
end
end Go.Proofs.YtnciibngcaajgaaDoor
/- OpArI: The contract of the program's OpArity. -/
namespace Go.Proofs.YtnciibngcaajgaaDoor
open Go Go.RowKit

set_option maxRecDepth 100000 in
set_option maxHeartbeats 1000000 in
theorem opArI_any (s : ByteArray) (w : World) : Calls Tryd.prog 18 #[.string s] w fun e w' => e = .returned (.int .i64 (opAr s.toList)) ∧ w' = w := by
  go_enter Tryd.func18, Tryd.ntmps18
  go_wp2
  all_goals
    go_ret
    exact ⟨by unfold opAr; simp_all, rfl⟩
end Go.Proofs.YtnciibngcaajgaaDoor
/- FormA: The contracts of the program's isZeroType, hasArity and isForm. -/
namespace Go.Proofs.YtnciibngcaajgaaDoor
open Go Go.RowKit

set_option maxRecDepth 100000 in
set_option maxHeartbeats 1000000 in
theorem zeroI_any (k : Int) (p : Option Addr) (n c : Nat) (w : World) : Calls Tryd.prog 59 #[.agg #[.int .i64 k, .slice p n c]] w (Tells (k = 0 ∧ n = 0) w) := by
  have HB := Lib.hid (al_below w (.cells #[.int .i64 k, .slice p n c] 26))
  go_enter Tryd.func59, Tryd.ntmps59
  by_cases hk : k = 0
  · subst hk
    go_wp2_with fail
    go_ret
    exact ⟨_, by simp, rfl, HB.out⟩
  · have hk1 : (k == 0) = false := by simpa using hk
    go_wp2_with fail
    go_ret
    exact ⟨_, by simp [hk], rfl, HB.out⟩

theorem arK_out (x : Int) {k : Int} (h : k < 1 ∨ 13 < k) : arK k x = -1 := by
  unfold arK
  rw [if_neg (by omega), if_neg (by omega), if_neg (by omega), if_neg (by omega), if_neg (by omega), if_neg (by omega), if_neg (by omega), if_neg (by omega), if_neg (by omega), if_neg (by omega), if_neg (by omega), if_neg (by omega), if_neg (by omega)]
/-- As many parts as the form asks for; an operation has some. -/
def Tm.arOk (t : Tm) : Prop := (t.args.length : Int) = t.arity ∧ (t.kind = 4 → 0 < t.args.length)

set_option maxRecDepth 100000 in
set_option maxHeartbeats 4000000 in
theorem hasAr_any (t : Tm) (tp : Option Addr) (tc : Nat) (rp : Option Addr) (rc : Nat) (p : Option Addr) (c : Nat) (w : World) (hka : KA w) (hn : t.wt ≤ 1048576) :
    Calls Tryd.prog 55 #[tmV t tp tc rp rc p c] w (Tells t.arOk w) := by
  have HB := Lib.hid (fun o => al_below w o)
  have HK := Lib.hid (fun o i => (hka.below (al_below w o)).cell i)
  have hl : t.args.length ≤ 1048576 := by have h1 := t.wt_eq; have h2 := wtS_ge t.args; omega
  clear hka hn
  unfold tmV
  by_cases hr : t.kind < 1 ∨ 13 < t.kind
  · have HN := Lib.hid (show ¬ t.arOk from fun e => by
      have h1 := e.1
      rw [Tm.arity, arK_out _ hr] at h1
      omega)
    rcases hr with hr | hr
    all_goals
      go_enter Tryd.func55, Tryd.ntmps55
      go_wp2_with fail
      go_ret
      exact ⟨_, lit_f HN.out, rfl, HB.out _⟩
  by_cases h4 : t.kind = 4
  · have HO := Lib.hid (opArI_any t.name)
    by_cases hz : 0 < t.args.length
    · have HA := Lib.hid (show (((t.args.length : Int) == opAr t.name.toList) = true ↔ t.arOk) by simp [Tm.arOk, Tm.arity, arK, h4, hz])
      have hd1 : decide (0 < t.args.length) = true := decide_eq_true hz
      rw [h4]
      clear hz hr h4
      go_enter Tryd.func55, Tryd.ntmps55
      go_wp2_with fail
      go_region_held3 (fun w' => w'.cell? ⟨w.heap.size, 1, none⟩ = some (.string t.name) ∧ w'.cell? ⟨w.heap.size, 8, none⟩ = some (.slice p t.args.length c) ∧ Below w.heap.size w w')
        (first
          | (go_keep; done)
          | exact ⟨cell_of_blk (blk_new w _) 1, cell_of_blk (blk_new w _) 8, (HB.out _).drew⟩
          | assumption)
        (first
          | (go_at_call 18; refine (HO.out _).mono ?_; rintro e w5 ⟨rfl, rfl⟩))
      rename_i hH
      have HBL := Lib.hid hH.2.2
      clear hH
      go_wp2_with fail
      go_ret
      exact ⟨_, HA.out, rfl, HBL.out⟩
    · have HA := Lib.hid (show ¬ t.arOk from fun e => hz (e.2 h4))
      rw [h4, show t.args.length = 0 by omega]
      clear hz hr h4 hl HO
      go_enter Tryd.func55, Tryd.ntmps55
      go_wp2_with fail
      refine wp_region_noPanic ?_
      refine wp_region_held_drew (S := (fun w' => w'.cell? ⟨w.heap.size, 1, none⟩ = some (.string t.name) ∧ w'.cell? ⟨w.heap.size, 8, none⟩ = some (.slice p 0 c) ∧ Below w.heap.size w w')) (by kernel_rfl) ?_ (fun hHeld => ?_)
      · try dsimp only
        exact ⟨cell_of_blk (blk_new w _) 1, cell_of_blk (blk_new w _) 8, (HB.out _).drew⟩
      refine wpAnyH_take (i := 0) (oi := ({ dst := some 16, op := Op.fieldAddr 29 (Operand.tmp 1) 6, type := 0, pos := "l05_term.go:117", after := #[], guard := none } : Oper)) (v := ?_) rfl (by kernel_rfl) (by kernel_rfl) (by kernel_rfl) (fun _ _ _ h => h) (Or.inl ⟨by rfl, ?_⟩) (by assumption) ?_
      rotate_left
      · intro w hSw
        try dsimp only at hSw
        go_simp
        try with_reducible rfl
      try simp only [Act.put, List.setIfInBounds_toArray, List.set_cons_zero, List.set_cons_succ]
      refine wpAnyH_take (i := 1) (oi := ({ dst := some 17, op := Op.load 27 (Operand.tmp 16), type := 27, pos := "l05_term.go:117", after := #[{ on := 0, ground := Ground.data }], guard := none } : Oper)) (v := ?_) rfl (by kernel_rfl) (by kernel_rfl) (by kernel_rfl) (fun _ _ _ h => h) (Or.inl ⟨by rfl, ?_⟩) (by assumption) ?_
      rotate_left
      · intro w hSw
        try dsimp only at hSw
        go_simp
        try with_reducible rfl
      try simp only [Act.put, List.setIfInBounds_toArray, List.set_cons_zero, List.set_cons_succ]
      refine wpAnyH_take (i := 2) (oi := ({ dst := some 18, op := Op.call { callee := Callee.builtin Builtin.len, args := #[Operand.tmp 17], argTypes := #[27] }, type := 3, pos := "l05_term.go:117", after := #[{ on := 1, ground := Ground.data }], guard := none } : Oper)) (v := ?_) rfl (by kernel_rfl) (by kernel_rfl) (by kernel_rfl) (fun _ _ _ h => h) (Or.inl ⟨by rfl, ?_⟩) (by assumption) ?_
      rotate_left
      · intro w hSw
        try dsimp only at hSw
        go_simp
        try with_reducible rfl
      try simp only [Act.put, List.setIfInBounds_toArray, List.set_cons_zero, List.set_cons_succ]
      refine wpAnyH_take (i := 3) (oi := ({ dst := some 19, op := Op.binOp BinOp.gtr 3 (Operand.tmp 18) (Operand.const (Value.int IntKind.i64 0)) 3, type := 4, pos := "l05_term.go:117", after := #[{ on := 2, ground := Ground.data }], guard := none } : Oper)) (v := ?_) rfl (by kernel_rfl) (by kernel_rfl) (by kernel_rfl) (fun _ _ _ h => h) (Or.inl ⟨by rfl, ?_⟩) (by assumption) ?_
      rotate_left
      · intro w hSw
        try dsimp only at hSw
        go_simp
        try with_reducible rfl
      try simp only [Act.put, List.setIfInBounds_toArray, List.set_cons_zero, List.set_cons_succ]
      refine wpAnyH_take (i := 4) (oi := ({ dst := some 20, op := Op.move (Operand.tmp 19), type := 4, pos := "l05_term.go:117", after := #[{ on := 3, ground := Ground.data }], guard := none } : Oper)) (v := ?_) rfl (by kernel_rfl) (by kernel_rfl) (by kernel_rfl) (fun _ _ _ h => h) (Or.inl ⟨by rfl, ?_⟩) (by assumption) ?_
      rotate_left
      · intro w hSw
        try dsimp only at hSw
        go_simp
        try with_reducible rfl
      try simp only [Act.put, List.setIfInBounds_toArray, List.set_cons_zero, List.set_cons_succ]
      refine wpAnyH_take (i := 5) (oi := ({ dst := some 21, op := Op.fieldAddr 29 (Operand.tmp 1) 6, type := 0, pos := "l05_term.go:117", after := #[{ on := 4, ground := Ground.guard }], guard := some (4, true) } : Oper)) (v := undef) rfl (by kernel_rfl) (by kernel_rfl) (by kernel_rfl) (fun _ _ _ h => h) (Or.inr ⟨by rfl, rfl⟩) (by assumption) ?_
      try simp only [Act.put, List.setIfInBounds_toArray, List.set_cons_zero, List.set_cons_succ]
      refine wpAnyH_take (i := 6) (oi := ({ dst := some 22, op := Op.load 27 (Operand.tmp 21), type := 27, pos := "l05_term.go:117", after := #[{ on := 5, ground := Ground.data }, { on := 4, ground := Ground.guard }], guard := some (4, true) } : Oper)) (v := undef) rfl (by kernel_rfl) (by kernel_rfl) (by kernel_rfl) (fun _ _ _ h => h) (Or.inr ⟨by rfl, rfl⟩) (by assumption) ?_
      try simp only [Act.put, List.setIfInBounds_toArray, List.set_cons_zero, List.set_cons_succ]
      refine wpAnyH_take (i := 7) (oi := ({ dst := some 23, op := Op.call { callee := Callee.builtin Builtin.len, args := #[Operand.tmp 22], argTypes := #[27] }, type := 3, pos := "l05_term.go:117", after := #[{ on := 6, ground := Ground.data }, { on := 4, ground := Ground.guard }], guard := some (4, true) } : Oper)) (v := undef) rfl (by kernel_rfl) (by kernel_rfl) (by kernel_rfl) (fun _ _ _ h => h) (Or.inr ⟨by rfl, rfl⟩) (by assumption) ?_
      try simp only [Act.put, List.setIfInBounds_toArray, List.set_cons_zero, List.set_cons_succ]
      refine wpAnyH_take (i := 8) (oi := ({ dst := some 24, op := Op.fieldAddr 29 (Operand.tmp 1) 1, type := 0, pos := "l05_term.go:117", after := #[{ on := 4, ground := Ground.guard }], guard := some (4, true) } : Oper)) (v := undef) rfl (by kernel_rfl) (by kernel_rfl) (by kernel_rfl) (fun _ _ _ h => h) (Or.inr ⟨by rfl, rfl⟩) (by assumption) ?_
      try simp only [Act.put, List.setIfInBounds_toArray, List.set_cons_zero, List.set_cons_succ]
      refine wpAnyH_take (i := 9) (oi := ({ dst := some 25, op := Op.load 9 (Operand.tmp 24), type := 9, pos := "l05_term.go:117", after := #[{ on := 8, ground := Ground.data }, { on := 4, ground := Ground.guard }], guard := some (4, true) } : Oper)) (v := undef) rfl (by kernel_rfl) (by kernel_rfl) (by kernel_rfl) (fun _ _ _ h => h) (Or.inr ⟨by rfl, rfl⟩) (by assumption) ?_
      try simp only [Act.put, List.setIfInBounds_toArray, List.set_cons_zero, List.set_cons_succ]
      refine wpAnyH_take (i := 10) (oi := ({ dst := some 26, op := Op.call { callee := Callee.value (Operand.func 18), args := #[Operand.tmp 25], argTypes := #[9] }, type := 3, pos := "l05_term.go:117", after := #[{ on := 9, ground := Ground.data }, { on := 4, ground := Ground.chain }, { on := 4, ground := Ground.guard }], guard := some (4, true) } : Oper)) (v := undef) rfl (by kernel_rfl) (by kernel_rfl) (by kernel_rfl) (fun _ _ _ h => h) (Or.inr ⟨by rfl, rfl⟩) (by assumption) ?_
      try simp only [Act.put, List.setIfInBounds_toArray, List.set_cons_zero, List.set_cons_succ]
      refine wpAnyH_take (i := 11) (oi := ({ dst := some 27, op := Op.binOp BinOp.eql 3 (Operand.tmp 23) (Operand.tmp 26) 3, type := 4, pos := "l05_term.go:117", after := #[{ on := 7, ground := Ground.data }, { on := 10, ground := Ground.data }, { on := 4, ground := Ground.guard }], guard := some (4, true) } : Oper)) (v := undef) rfl (by kernel_rfl) (by kernel_rfl) (by kernel_rfl) (fun _ _ _ h => h) (Or.inr ⟨by rfl, rfl⟩) (by assumption) ?_
      try simp only [Act.put, List.setIfInBounds_toArray, List.set_cons_zero, List.set_cons_succ]
      refine wpAnyH_take (i := 12) (oi := ({ dst := some 28, op := Op.pick (Operand.tmp 20) (Operand.tmp 27) (Operand.const (Value.bool false)), type := 4, pos := "l05_term.go:117", after := #[{ on := 4, ground := Ground.data }, { on := 11, ground := Ground.data }], guard := none } : Oper)) (v := ?_) rfl (by kernel_rfl) (by kernel_rfl) (by kernel_rfl) (fun _ _ _ h => h) (Or.inl ⟨by rfl, ?_⟩) (by assumption) ?_
      rotate_left
      · intro w hSw
        try dsimp only at hSw
        go_simp
        try with_reducible rfl
      try simp only [Act.put, List.setIfInBounds_toArray, List.set_cons_zero, List.set_cons_succ]
      refine wpAnyH_take (i := 13) (oi := ({ dst := some 2, op := Op.assign (Operand.tmp 28), type := 4, pos := "l05_term.go:117", after := #[{ on := 12, ground := Ground.data }, { on := 10, ground := Ground.chain }, { on := 0, ground := Ground.phase }, { on := 1, ground := Ground.phase }, { on := 2, ground := Ground.phase }, { on := 3, ground := Ground.phase }, { on := 4, ground := Ground.phase }, { on := 5, ground := Ground.phase }, { on := 6, ground := Ground.phase }, { on := 7, ground := Ground.phase }, { on := 8, ground := Ground.phase }, { on := 9, ground := Ground.phase }, { on := 10, ground := Ground.phase }, { on := 11, ground := Ground.phase }, { on := 12, ground := Ground.phase }], guard := none } : Oper)) (v := ?_) rfl (by kernel_rfl) (by kernel_rfl) (by kernel_rfl) (fun _ _ _ h => h) (Or.inl ⟨by rfl, ?_⟩) (by assumption) ?_
      rotate_left
      · intro w hSw
        try dsimp only at hSw
        go_simp
        try with_reducible rfl
      try simp only [Act.put, List.setIfInBounds_toArray, List.set_cons_zero, List.set_cons_succ]
      refine wpAnyH_done (by kernel_rfl) ?_ _
      refine NoPanic.normal ?_
      clear hHeld
      go_wp2_with fail
      go_ret
      exact ⟨_, lit_f HA.out, rfl, (HB.out _).drew⟩
  rcases (show t.kind = 1 ∨ t.kind = 2 ∨ t.kind = 3 ∨ t.kind = 5 ∨ t.kind = 6 ∨ t.kind = 7 ∨ t.kind = 8 ∨ t.kind = 9 ∨ t.kind = 10 ∨ t.kind = 11 ∨ t.kind = 12 ∨ t.kind = 13 by omega) with hk | hk | hk | hk | hk | hk | hk | hk | hk | hk | hk | hk
  · have HA := Lib.hid (show (((t.args.length : Int) == 0) = true ↔ t.arOk) by simp [Tm.arOk, Tm.arity, arK, hk])
    have hc : (w.alloc (.cells #[.int .i64 1, .string t.name, .string t.other, .int .i64 t.n, .int .i64 t.ty.kind, .slice tp t.ty.args.length tc, .int .i64 t.res.kind, .slice rp t.res.args.length rc, .slice p t.args.length c] 29)).cell? ⟨0, 1, none⟩ = some (.int .i64 0) := by rw [HK.out _ 1]; rfl
    rw [hk]
    clear h4 hr hk hl
    go_enter Tryd.func55, Tryd.ntmps55
    go_wp2_with fail
    go_region_held3 (fun w' => w'.cell? ⟨w.heap.size, 0, none⟩ = some (.int .i64 1) ∧ w'.cell? ⟨w.heap.size, 8, none⟩ = some (.slice p t.args.length c) ∧ w'.cell? ⟨0, 1, none⟩ = some (.int .i64 0) ∧ Below w.heap.size w w')
      (first
        | (go_keep; done)
        | exact ⟨cell_of_blk (blk_new w _) 0, cell_of_blk (blk_new w _) 8, hc, (HB.out _).drew⟩)
      (first
        | fail)
    rename_i hH
    have HBL := Lib.hid hH.2.2.2
    clear hH hc
    go_wp2_with fail
    go_ret
    exact ⟨_, HA.out, rfl, HBL.out⟩
  · have HA := Lib.hid (show (((t.args.length : Int) == 0) = true ↔ t.arOk) by simp [Tm.arOk, Tm.arity, arK, hk])
    have hc : (w.alloc (.cells #[.int .i64 2, .string t.name, .string t.other, .int .i64 t.n, .int .i64 t.ty.kind, .slice tp t.ty.args.length tc, .int .i64 t.res.kind, .slice rp t.res.args.length rc, .slice p t.args.length c] 29)).cell? ⟨0, 2, none⟩ = some (.int .i64 0) := by rw [HK.out _ 2]; rfl
    rw [hk]
    clear h4 hr hk hl
    go_enter Tryd.func55, Tryd.ntmps55
    go_wp2_with fail
    go_region_held3 (fun w' => w'.cell? ⟨w.heap.size, 0, none⟩ = some (.int .i64 2) ∧ w'.cell? ⟨w.heap.size, 8, none⟩ = some (.slice p t.args.length c) ∧ w'.cell? ⟨0, 2, none⟩ = some (.int .i64 0) ∧ Below w.heap.size w w')
      (first
        | (go_keep; done)
        | exact ⟨cell_of_blk (blk_new w _) 0, cell_of_blk (blk_new w _) 8, hc, (HB.out _).drew⟩)
      (first
        | fail)
    rename_i hH
    have HBL := Lib.hid hH.2.2.2
    clear hH hc
    go_wp2_with fail
    go_ret
    exact ⟨_, HA.out, rfl, HBL.out⟩
  · have HA := Lib.hid (show (((t.args.length : Int) == 0) = true ↔ t.arOk) by simp [Tm.arOk, Tm.arity, arK, hk])
    have hc : (w.alloc (.cells #[.int .i64 3, .string t.name, .string t.other, .int .i64 t.n, .int .i64 t.ty.kind, .slice tp t.ty.args.length tc, .int .i64 t.res.kind, .slice rp t.res.args.length rc, .slice p t.args.length c] 29)).cell? ⟨0, 3, none⟩ = some (.int .i64 0) := by rw [HK.out _ 3]; rfl
    rw [hk]
    clear h4 hr hk hl
    go_enter Tryd.func55, Tryd.ntmps55
    go_wp2_with fail
    go_region_held3 (fun w' => w'.cell? ⟨w.heap.size, 0, none⟩ = some (.int .i64 3) ∧ w'.cell? ⟨w.heap.size, 8, none⟩ = some (.slice p t.args.length c) ∧ w'.cell? ⟨0, 3, none⟩ = some (.int .i64 0) ∧ Below w.heap.size w w')
      (first
        | (go_keep; done)
        | exact ⟨cell_of_blk (blk_new w _) 0, cell_of_blk (blk_new w _) 8, hc, (HB.out _).drew⟩)
      (first
        | fail)
    rename_i hH
    have HBL := Lib.hid hH.2.2.2
    clear hH hc
    go_wp2_with fail
    go_ret
    exact ⟨_, HA.out, rfl, HBL.out⟩
  · have HA := Lib.hid (show (((t.args.length : Int) == 3) = true ↔ t.arOk) by simp [Tm.arOk, Tm.arity, arK, hk])
    have hc : (w.alloc (.cells #[.int .i64 5, .string t.name, .string t.other, .int .i64 t.n, .int .i64 t.ty.kind, .slice tp t.ty.args.length tc, .int .i64 t.res.kind, .slice rp t.res.args.length rc, .slice p t.args.length c] 29)).cell? ⟨0, 5, none⟩ = some (.int .i64 3) := by rw [HK.out _ 5]; rfl
    rw [hk]
    clear h4 hr hk hl
    go_enter Tryd.func55, Tryd.ntmps55
    go_wp2_with fail
    go_region_held3 (fun w' => w'.cell? ⟨w.heap.size, 0, none⟩ = some (.int .i64 5) ∧ w'.cell? ⟨w.heap.size, 8, none⟩ = some (.slice p t.args.length c) ∧ w'.cell? ⟨0, 5, none⟩ = some (.int .i64 3) ∧ Below w.heap.size w w')
      (first
        | (go_keep; done)
        | exact ⟨cell_of_blk (blk_new w _) 0, cell_of_blk (blk_new w _) 8, hc, (HB.out _).drew⟩)
      (first
        | fail)
    rename_i hH
    have HBL := Lib.hid hH.2.2.2
    clear hH hc
    go_wp2_with fail
    go_ret
    exact ⟨_, HA.out, rfl, HBL.out⟩
  · have HA := Lib.hid (show (((t.args.length : Int) == 1) = true ↔ t.arOk) by simp [Tm.arOk, Tm.arity, arK, hk])
    have hc : (w.alloc (.cells #[.int .i64 6, .string t.name, .string t.other, .int .i64 t.n, .int .i64 t.ty.kind, .slice tp t.ty.args.length tc, .int .i64 t.res.kind, .slice rp t.res.args.length rc, .slice p t.args.length c] 29)).cell? ⟨0, 6, none⟩ = some (.int .i64 1) := by rw [HK.out _ 6]; rfl
    rw [hk]
    clear h4 hr hk hl
    go_enter Tryd.func55, Tryd.ntmps55
    go_wp2_with fail
    go_region_held3 (fun w' => w'.cell? ⟨w.heap.size, 0, none⟩ = some (.int .i64 6) ∧ w'.cell? ⟨w.heap.size, 8, none⟩ = some (.slice p t.args.length c) ∧ w'.cell? ⟨0, 6, none⟩ = some (.int .i64 1) ∧ Below w.heap.size w w')
      (first
        | (go_keep; done)
        | exact ⟨cell_of_blk (blk_new w _) 0, cell_of_blk (blk_new w _) 8, hc, (HB.out _).drew⟩)
      (first
        | fail)
    rename_i hH
    have HBL := Lib.hid hH.2.2.2
    clear hH hc
    go_wp2_with fail
    go_ret
    exact ⟨_, HA.out, rfl, HBL.out⟩
  · have HA := Lib.hid (show (((t.args.length : Int) == 2) = true ↔ t.arOk) by simp [Tm.arOk, Tm.arity, arK, hk])
    have hc : (w.alloc (.cells #[.int .i64 7, .string t.name, .string t.other, .int .i64 t.n, .int .i64 t.ty.kind, .slice tp t.ty.args.length tc, .int .i64 t.res.kind, .slice rp t.res.args.length rc, .slice p t.args.length c] 29)).cell? ⟨0, 7, none⟩ = some (.int .i64 2) := by rw [HK.out _ 7]; rfl
    rw [hk]
    clear h4 hr hk hl
    go_enter Tryd.func55, Tryd.ntmps55
    go_wp2_with fail
    go_region_held3 (fun w' => w'.cell? ⟨w.heap.size, 0, none⟩ = some (.int .i64 7) ∧ w'.cell? ⟨w.heap.size, 8, none⟩ = some (.slice p t.args.length c) ∧ w'.cell? ⟨0, 7, none⟩ = some (.int .i64 2) ∧ Below w.heap.size w w')
      (first
        | (go_keep; done)
        | exact ⟨cell_of_blk (blk_new w _) 0, cell_of_blk (blk_new w _) 8, hc, (HB.out _).drew⟩)
      (first
        | fail)
    rename_i hH
    have HBL := Lib.hid hH.2.2.2
    clear hH hc
    go_wp2_with fail
    go_ret
    exact ⟨_, HA.out, rfl, HBL.out⟩
  · have HA := Lib.hid (show (((t.args.length : Int) == 2) = true ↔ t.arOk) by simp [Tm.arOk, Tm.arity, arK, hk])
    have hc : (w.alloc (.cells #[.int .i64 8, .string t.name, .string t.other, .int .i64 t.n, .int .i64 t.ty.kind, .slice tp t.ty.args.length tc, .int .i64 t.res.kind, .slice rp t.res.args.length rc, .slice p t.args.length c] 29)).cell? ⟨0, 8, none⟩ = some (.int .i64 2) := by rw [HK.out _ 8]; rfl
    rw [hk]
    clear h4 hr hk hl
    go_enter Tryd.func55, Tryd.ntmps55
    go_wp2_with fail
    go_region_held3 (fun w' => w'.cell? ⟨w.heap.size, 0, none⟩ = some (.int .i64 8) ∧ w'.cell? ⟨w.heap.size, 8, none⟩ = some (.slice p t.args.length c) ∧ w'.cell? ⟨0, 8, none⟩ = some (.int .i64 2) ∧ Below w.heap.size w w')
      (first
        | (go_keep; done)
        | exact ⟨cell_of_blk (blk_new w _) 0, cell_of_blk (blk_new w _) 8, hc, (HB.out _).drew⟩)
      (first
        | fail)
    rename_i hH
    have HBL := Lib.hid hH.2.2.2
    clear hH hc
    go_wp2_with fail
    go_ret
    exact ⟨_, HA.out, rfl, HBL.out⟩
  · have HA := Lib.hid (show (((t.args.length : Int) == 1) = true ↔ t.arOk) by simp [Tm.arOk, Tm.arity, arK, hk])
    have hc : (w.alloc (.cells #[.int .i64 9, .string t.name, .string t.other, .int .i64 t.n, .int .i64 t.ty.kind, .slice tp t.ty.args.length tc, .int .i64 t.res.kind, .slice rp t.res.args.length rc, .slice p t.args.length c] 29)).cell? ⟨0, 9, none⟩ = some (.int .i64 1) := by rw [HK.out _ 9]; rfl
    rw [hk]
    clear h4 hr hk hl
    go_enter Tryd.func55, Tryd.ntmps55
    go_wp2_with fail
    go_region_held3 (fun w' => w'.cell? ⟨w.heap.size, 0, none⟩ = some (.int .i64 9) ∧ w'.cell? ⟨w.heap.size, 8, none⟩ = some (.slice p t.args.length c) ∧ w'.cell? ⟨0, 9, none⟩ = some (.int .i64 1) ∧ Below w.heap.size w w')
      (first
        | (go_keep; done)
        | exact ⟨cell_of_blk (blk_new w _) 0, cell_of_blk (blk_new w _) 8, hc, (HB.out _).drew⟩)
      (first
        | fail)
    rename_i hH
    have HBL := Lib.hid hH.2.2.2
    clear hH hc
    go_wp2_with fail
    go_ret
    exact ⟨_, HA.out, rfl, HBL.out⟩
  · have HA := Lib.hid (show (((t.args.length : Int) == 1) = true ↔ t.arOk) by simp [Tm.arOk, Tm.arity, arK, hk])
    have hc : (w.alloc (.cells #[.int .i64 10, .string t.name, .string t.other, .int .i64 t.n, .int .i64 t.ty.kind, .slice tp t.ty.args.length tc, .int .i64 t.res.kind, .slice rp t.res.args.length rc, .slice p t.args.length c] 29)).cell? ⟨0, 10, none⟩ = some (.int .i64 1) := by rw [HK.out _ 10]; rfl
    rw [hk]
    clear h4 hr hk hl
    go_enter Tryd.func55, Tryd.ntmps55
    go_wp2_with fail
    go_region_held3 (fun w' => w'.cell? ⟨w.heap.size, 0, none⟩ = some (.int .i64 10) ∧ w'.cell? ⟨w.heap.size, 8, none⟩ = some (.slice p t.args.length c) ∧ w'.cell? ⟨0, 10, none⟩ = some (.int .i64 1) ∧ Below w.heap.size w w')
      (first
        | (go_keep; done)
        | exact ⟨cell_of_blk (blk_new w _) 0, cell_of_blk (blk_new w _) 8, hc, (HB.out _).drew⟩)
      (first
        | fail)
    rename_i hH
    have HBL := Lib.hid hH.2.2.2
    clear hH hc
    go_wp2_with fail
    go_ret
    exact ⟨_, HA.out, rfl, HBL.out⟩
  · have HA := Lib.hid (show (((t.args.length : Int) == 1) = true ↔ t.arOk) by simp [Tm.arOk, Tm.arity, arK, hk])
    have hc : (w.alloc (.cells #[.int .i64 11, .string t.name, .string t.other, .int .i64 t.n, .int .i64 t.ty.kind, .slice tp t.ty.args.length tc, .int .i64 t.res.kind, .slice rp t.res.args.length rc, .slice p t.args.length c] 29)).cell? ⟨0, 11, none⟩ = some (.int .i64 1) := by rw [HK.out _ 11]; rfl
    rw [hk]
    clear h4 hr hk hl
    go_enter Tryd.func55, Tryd.ntmps55
    go_wp2_with fail
    go_region_held3 (fun w' => w'.cell? ⟨w.heap.size, 0, none⟩ = some (.int .i64 11) ∧ w'.cell? ⟨w.heap.size, 8, none⟩ = some (.slice p t.args.length c) ∧ w'.cell? ⟨0, 11, none⟩ = some (.int .i64 1) ∧ Below w.heap.size w w')
      (first
        | (go_keep; done)
        | exact ⟨cell_of_blk (blk_new w _) 0, cell_of_blk (blk_new w _) 8, hc, (HB.out _).drew⟩)
      (first
        | fail)
    rename_i hH
    have HBL := Lib.hid hH.2.2.2
    clear hH hc
    go_wp2_with fail
    go_ret
    exact ⟨_, HA.out, rfl, HBL.out⟩
  · have HA := Lib.hid (show (((t.args.length : Int) == 1) = true ↔ t.arOk) by simp [Tm.arOk, Tm.arity, arK, hk])
    have hc : (w.alloc (.cells #[.int .i64 12, .string t.name, .string t.other, .int .i64 t.n, .int .i64 t.ty.kind, .slice tp t.ty.args.length tc, .int .i64 t.res.kind, .slice rp t.res.args.length rc, .slice p t.args.length c] 29)).cell? ⟨0, 12, none⟩ = some (.int .i64 1) := by rw [HK.out _ 12]; rfl
    rw [hk]
    clear h4 hr hk hl
    go_enter Tryd.func55, Tryd.ntmps55
    go_wp2_with fail
    go_region_held3 (fun w' => w'.cell? ⟨w.heap.size, 0, none⟩ = some (.int .i64 12) ∧ w'.cell? ⟨w.heap.size, 8, none⟩ = some (.slice p t.args.length c) ∧ w'.cell? ⟨0, 12, none⟩ = some (.int .i64 1) ∧ Below w.heap.size w w')
      (first
        | (go_keep; done)
        | exact ⟨cell_of_blk (blk_new w _) 0, cell_of_blk (blk_new w _) 8, hc, (HB.out _).drew⟩)
      (first
        | fail)
    rename_i hH
    have HBL := Lib.hid hH.2.2.2
    clear hH hc
    go_wp2_with fail
    go_ret
    exact ⟨_, HA.out, rfl, HBL.out⟩
  · have HA := Lib.hid (show (((t.args.length : Int) == 1) = true ↔ t.arOk) by simp [Tm.arOk, Tm.arity, arK, hk])
    have hc : (w.alloc (.cells #[.int .i64 13, .string t.name, .string t.other, .int .i64 t.n, .int .i64 t.ty.kind, .slice tp t.ty.args.length tc, .int .i64 t.res.kind, .slice rp t.res.args.length rc, .slice p t.args.length c] 29)).cell? ⟨0, 13, none⟩ = some (.int .i64 1) := by rw [HK.out _ 13]; rfl
    rw [hk]
    clear h4 hr hk hl
    go_enter Tryd.func55, Tryd.ntmps55
    go_wp2_with fail
    go_region_held3 (fun w' => w'.cell? ⟨w.heap.size, 0, none⟩ = some (.int .i64 13) ∧ w'.cell? ⟨w.heap.size, 8, none⟩ = some (.slice p t.args.length c) ∧ w'.cell? ⟨0, 13, none⟩ = some (.int .i64 1) ∧ Below w.heap.size w w')
      (first
        | (go_keep; done)
        | exact ⟨cell_of_blk (blk_new w _) 0, cell_of_blk (blk_new w _) 8, hc, (HB.out _).drew⟩)
      (first
        | fail)
    rename_i hH
    have HBL := Lib.hid hH.2.2.2
    clear hH hc
    go_wp2_with fail
    go_ret
    exact ⟨_, HA.out, rfl, HBL.out⟩
end Go.Proofs.YtnciibngcaajgaaDoor
/- IsNameI: The contract of the program's IsName, which ranges over the string rune by rune, and the walk of the law on it. -/
namespace Go.Proofs.YtnciibngcaajgaaDoor
open Go Go.RowKit

theorem iter_below (w : World) (s : ByteArray) (pos : Nat) : Below w.heap.size w (w.iter s pos) := (Below.refl _ _).alloc (Nat.le_refl _) _
theorem size_nil {s : ByteArray} (h : s.toList = []) : s.size = 0 := by
  rw [ByteArray.toList_eq] at h
  obtain ⟨⟨l⟩⟩ := s
  have : l = [] := h
  subst this
  rfl
theorem nil_size {s : ByteArray} (h : s.size = 0) : s.toList = [] := by
  rw [ByteArray.toList_eq]
  obtain ⟨⟨l⟩⟩ := s
  exact List.eq_nil_of_length_eq_zero h

set_option maxRecDepth 100000 in
set_option maxHeartbeats 1000000 in
theorem nmI_loop (s : ByteArray) (w : World) (h1 : 1 ≤ s.size) (h4 : s.size ≤ 4) (hfree : ¬ Res s) : Calls Tryd.prog 56 #[.string s] w (Tells (Nm s) w) := by
  have t0 : (s.toList == []) = false := by
    rw [beq_eq_false_iff_ne]
    exact fun hc => absurd (size_nil hc) (by omega)
  have HC : Hid (Calls Tryd.prog 75 #[.string s] w fun e w' => e = .returned (.bool false) ∧ Below w.heap.size w w') := Lib.hid ((res_any s w).mono fun e w' ⟨r, hr, he, hb⟩ => by
    cases r with
    | true => exact absurd (hr.1 rfl) hfree
    | false => exact ⟨he, hb⟩)
  have HE := Lib.hid (fun (h : ∀ k, okAt s k) => Nm.mk h h1 h4 hfree)
  clear hfree
  go_enter Tryd.func56, Tryd.ntmps56
  go_wp2_with fail
  refine HC.out.mono ?_
  rintro e w1 ⟨rfl, hb1⟩
  have HB := Lib.hid hb1
  clear hb1 HC
  go_wp2_with fail
  go_loopw [3] (fun _ wr => ∃ pos : Nat, wr = w1.iter s pos ∧ Hid (∀ j, j < pos → okAt s j)) (fun _ wr => s.size - wr.iterPos w1.heap.size)
  case atStart => exact ⟨0, rfl, Lib.hid (fun j hj => absurd hj (Nat.not_lt_zero j))⟩
  case round =>
    obtain ⟨pos, rfl, HK⟩ := hrel
    have HBI := Lib.hid (HB.out.trans ((iter_below w1 s pos).mono HB.out.size))
    by_cases hp : pos < s.size
    · by_cases ha : s[pos].toNat < 128
      · have hnx : ∀ ty, (Instr.next (.pointer (some ⟨w1.heap.size, 0, none⟩)) true ty).run Tryd.prog (w1.iter s pos) = _ := fun ty => run_next_ascii w1 s pos ty hp ha
        have HBN := Lib.hid (HB.out.trans ((iter_below w1 s (pos + 1)).mono HB.out.size))
        by_cases hlet : 97 ≤ s[pos].toNat ∧ s[pos].toNat ≤ 122
        · obtain ⟨l1, l2⟩ := hlet
          have HN := Lib.hid (ok_next HK.out (ok_letter l1 l2))
          go_wp2_with fail
          go_roundw
          case rel => exact ⟨pos + 1, rfl, HN⟩
          case measure => simp; omega
        · by_cases hdig : 1 ≤ pos ∧ 48 ≤ s[pos].toNat ∧ s[pos].toNat ≤ 57
          · obtain ⟨d0, d1, d2⟩ := hdig
            have HN := Lib.hid (ok_next HK.out (ok_digit d0 d1 d2))
            have t := at_more d0
            clear hlet
            go_wp2_with fail
            go_roundw
            case rel => exact ⟨pos + 1, rfl, HN⟩
            case measure => simp; omega
          · have HN := Lib.hid (ok_bad (s := s) (k := pos) (hk := hp) (by omega) (by omega))
            rcases (show s[pos].toNat < 48 ∨ (pos = 0 ∧ 48 ≤ s[pos].toNat ∧ s[pos].toNat ≤ 57) ∨ (57 < s[pos].toNat ∧ s[pos].toNat < 97) ∨ 122 < s[pos].toNat by omega) with b1 | ⟨b0, b1, b2⟩ | ⟨b1, b2⟩ | b1
            all_goals clear hdig hlet
            · skip
              have p48 : decide ((48 : Int) ≤ (s[pos].toNat : Int)) = false := by simp; omega
              have p57 : decide ((s[pos].toNat : Int) ≤ 57) = true := by simp; omega
              have p97 : decide ((97 : Int) ≤ (s[pos].toNat : Int)) = false := by simp; omega
              have p122 : decide ((s[pos].toNat : Int) ≤ 122) = true := by simp; omega
              go_wp2_with fail
              go_ret
              exact ⟨false, tells_no HN.out, rfl, HBN.out⟩
            · subst b0
              have p48 : decide ((48 : Int) ≤ (s[0].toNat : Int)) = true := by simp; omega
              have p57 : decide ((s[0].toNat : Int) ≤ 57) = true := by simp; omega
              have p97 : decide ((97 : Int) ≤ (s[0].toNat : Int)) = false := by simp; omega
              have p122 : decide ((s[0].toNat : Int) ≤ 122) = true := by simp; omega
              go_wp2_with fail
              go_ret
              exact ⟨false, tells_no HN.out, rfl, HBN.out⟩
            · skip
              have p48 : decide ((48 : Int) ≤ (s[pos].toNat : Int)) = true := by simp; omega
              have p57 : decide ((s[pos].toNat : Int) ≤ 57) = false := by simp; omega
              have p97 : decide ((97 : Int) ≤ (s[pos].toNat : Int)) = false := by simp; omega
              have p122 : decide ((s[pos].toNat : Int) ≤ 122) = true := by simp; omega
              go_wp2_with fail
              go_ret
              exact ⟨false, tells_no HN.out, rfl, HBN.out⟩
            · skip
              have p48 : decide ((48 : Int) ≤ (s[pos].toNat : Int)) = true := by simp; omega
              have p57 : decide ((s[pos].toNat : Int) ≤ 57) = false := by simp; omega
              have p97 : decide ((97 : Int) ≤ (s[pos].toNat : Int)) = true := by simp; omega
              have p122 : decide ((s[pos].toNat : Int) ≤ 122) = false := by simp; omega
              go_wp2_with fail
              go_ret
              exact ⟨false, tells_no HN.out, rfl, HBN.out⟩
      · obtain ⟨r, hr⟩ : ∃ r, r = (Utf8.decode s pos).1 := ⟨_, rfl⟩
        obtain ⟨wd, hwd⟩ : ∃ wd, wd = (Utf8.decode s pos).2 := ⟨_, rfl⟩
        have hnx : ∀ ty, (Instr.next (.pointer (some ⟨w1.heap.size, 0, none⟩)) true ty).run Tryd.prog (w1.iter s pos) = _ := fun ty => run_next_any w1 s pos ty hp
        have hrh : 128 ≤ r := by rw [hr]; exact (decode_high s pos hp (by omega)).1
        rw [← hr, ← hwd] at hnx
        clear hr hwd
        have HBN := Lib.hid (HB.out.trans ((iter_below w1 s (pos + wd)).mono HB.out.size))
        have HN := Lib.hid (ok_bad (s := s) (k := pos) (hk := hp) (by omega) (by omega))
        have p48 : decide ((48 : Int) ≤ (r : Int)) = true := by simp; omega
        have p57 : decide ((r : Int) ≤ 57) = false := by simp; omega
        have p97 : decide ((97 : Int) ≤ (r : Int)) = true := by simp; omega
        have p122 : decide ((r : Int) ≤ 122) = false := by simp; omega
        go_wp2_with fail
        go_ret
        exact ⟨false, tells_no HN.out, rfl, HBN.out⟩
    · have hnx : ∀ ty, (Instr.next (.pointer (some ⟨w1.heap.size, 0, none⟩)) true ty).run Tryd.prog (w1.iter s pos) = _ := fun ty => run_next_end w1 s pos ty hp
      have HN := Lib.hid (HE.out (ok_end HK.out (by omega)))
      go_wp2_with fail
      go_ret
      exact ⟨true, tells_yes HN.out, rfl, HBI.out⟩

set_option maxRecDepth 100000 in
set_option maxHeartbeats 1000000 in
theorem nmI_any (s : ByteArray) (w : World) (hs : s.size ≤ 9223372036854775807) : Calls Tryd.prog 56 #[.string s] w (Tells (Nm s) w) := by
  by_cases h0 : s.size = 0
  · have t0 : (s.toList == []) = true := by rw [nil_size h0]; rfl
    have HN := Lib.hid (show ¬ Nm s from fun h => absurd h.lo (by omega))
    clear h0
    go_enter Tryd.func56, Tryd.ntmps56
    go_wp2_with fail
    go_ret
    exact ⟨false, tells_no HN.out, rfl, Below.refl _ _⟩
  have t0 : (s.toList == []) = false := by
    rw [beq_eq_false_iff_ne]
    exact fun hc => h0 (size_nil hc)
  by_cases h4 : 4 < (s.size : Int)
  · have HN := Lib.hid (show ¬ Nm s from fun h => absurd h.hi (by omega))
    go_enter Tryd.func56, Tryd.ntmps56
    go_wp2_with fail
    go_ret
    exact ⟨false, tells_no HN.out, rfl, Below.refl _ _⟩
  by_cases hres : Res s
  · have HN := Lib.hid (show ¬ Nm s from fun h => h.free hres)
    have HC : Hid (Calls Tryd.prog 75 #[.string s] w fun e w' => e = .returned (.bool true) ∧ Below w.heap.size w w') := Lib.hid ((res_any s w).mono fun e w' ⟨r, hr, he, hb⟩ => by
      cases r with
      | true => exact ⟨he, hb⟩
      | false => exact absurd (hr.2 hres) (by decide))
    clear hres
    go_enter Tryd.func56, Tryd.ntmps56
    go_wp2_with fail
    refine HC.out.mono ?_
    rintro e w1 ⟨rfl, hb1⟩
    go_wp2_with fail
    go_ret
    exact ⟨false, tells_no HN.out, rfl, hb1⟩
  exact nmI_loop s w (by omega) (by omega) hres

theorem tells_same {p : Prop} {a b : Bool} (ha : a = true ↔ p) (hb : b = true ↔ p) : a = b := by
  cases a <;> cases b
  · rfl
  · exact absurd (ha.2 (hb.1 rfl)) (by decide)
  · exact absurd (hb.2 (ha.1 rfl)) (by decide)
  · rfl
end Go.Proofs.YtnciibngcaajgaaDoor
