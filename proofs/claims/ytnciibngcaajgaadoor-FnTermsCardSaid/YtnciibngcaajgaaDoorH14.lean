/-
  Several texts of the proof in one (each says below what it holds): SizesT WithinT ValidT.
-/
import Derived.Test.YtnciibngcaajgaaDoorH13
import Derived.Test.YtnciibngcaajgaaDoorH7
import Derived.Lib.SmallJoins
/- SizesT: The contracts of the program's typeNodes, countNodes, greatestDepth at a type, and of SizeOfType, DepthOfType (gensizes.py writes this text). -/
namespace Go.Proofs.YtnciibngcaajgaaDoor
open Go Go.RowKit Go.Shelf
attribute [local go_sem] Oper.semAt_some

theorem nstaysT {w w' : World} {C : Nat → Prop} {t : Ty} {v : Value} (h : NT w C t v) (hs : Stays C w w') : NT w' C t v := by
  obtain ⟨s, hv, h⟩ := h
  exact ⟨s, hv, h.stays hs⟩
abbrev encNT (x : Ty × Value × Nat) : Array Value := #[x.2.1, .int .i64 (x.2.2 : Nat)]
abbrev keyNT (x : Ty × Value × Nat) : Ty × Nat := (x.1, x.2.2)
abbrev GoodNT (C : Nat → Prop) (x : Ty × Value × Nat) (W : World) : Prop := NT W C x.1 x.2.1

/-- The iterator over t's nodes: its two boxes, and t in memory. -/
structure IterT (w : World) (t : Ty) (p : Option Addr) (c : Nat) (Bt Bp : Nat) : Prop where
  bt : w.heap[Bt]? = some (.cells #[.int .i64 t.kind, .slice p t.args.length c] 26 (0, 0))
  bp : w.heap[Bp]? = some (.cells #[.func (.func 85) #[] #[]] 106 (0, 0))
  node : TS' w (· < w.heap.size) t p c
abbrev iterT (Bt Bp : Nat) : Value := .func (.func 90) #[] #[.pointer (some ⟨Bt, 0, none⟩), .pointer (some ⟨Bp, 0, none⟩)]

theorem nodesT_seq {w wl : World} {t : Ty} {p : Option Addr} {c : Nat} {Bt Bp : Nat} (h : IterT w t p c Bt Bp) (hn : t.nodes ≤ 1048577) (hb : Below w.heap.size w wl) (Cb : Nat → Prop) (hCb : ∀ b, Cb b → w.heap.size ≤ b ∧ b < wl.heap.size) :
    SeqT Fence.wide 1 Tryd.prog 90 #[.pointer (some ⟨Bt, 0, none⟩), .pointer (some ⟨Bp, 0, none⟩)] encNT keyNT (GoodNT (· < w.heap.size)) Cb (walkT t 1) wl := by
  intro l J Jx W hbW hJ hY hJ0
  have hbt := (Array.getElem?_eq_some_iff.1 h.bt).1
  have hbp := (Array.getElem?_eq_some_iff.1 h.bp).1
  have hbb : Below w.heap.size w W := hb.trans (hbW.mono hb.size)
  exact nodesT_it l Bt Bp t p c Cb (· < w.heap.size) W J Jx ((hbb.block _ hbt).trans h.bt) ((hbb.block _ hbp).trans h.bp) (h.node.stays (.of_below hbb)) hn
    (fun b hc => Nat.lt_of_lt_of_le (hCb b hc).2 hbW.size) (fun b hc => ⟨fun h2 => by have := (hCb b h2).1; omega, Nat.lt_of_lt_of_le hc hbb.size⟩) hbp hJ (fun pre x v d W1 h1 h2 h3 => hY pre (x, v, d) W1 h1 h2 h3) hJ0

/-- The same, for whatever blocks hold the tree and for whatever blocks the body may write. -/
theorem nodesT_seq2 {w wl : World} {C : Nat → Prop} {t : Ty} {p : Option Addr} {c : Nat} {Bt Bp : Nat} (h : IterT w t p c Bt Bp) (hT : TS' w C t p c) (hn : t.nodes ≤ 1048577) (hb : Below w.heap.size w wl) (Cb : Nat → Prop) (hCb : ∀ b, Cb b → b < wl.heap.size) (hC : ∀ b, C b → ¬ Cb b ∧ b < w.heap.size) (hp : C Bp) :
    SeqT Fence.wide 1 Tryd.prog 90 #[.pointer (some ⟨Bt, 0, none⟩), .pointer (some ⟨Bp, 0, none⟩)] encNT keyNT (GoodNT C) Cb (walkT t 1) wl := by
  intro l J Jx W hbW hJ hY hJ0
  have hbt := (Array.getElem?_eq_some_iff.1 h.bt).1
  have hbp := (Array.getElem?_eq_some_iff.1 h.bp).1
  have hbb : Below w.heap.size w W := hb.trans (hbW.mono hb.size)
  exact nodesT_it l Bt Bp t p c Cb C W J Jx ((hbb.block _ hbt).trans h.bt) ((hbb.block _ hbp).trans h.bp) (hT.stays (.of_below hbb)) hn
    (fun b hc => Nat.lt_of_lt_of_le (hCb b hc) hbW.size) (fun b hc => ⟨(hC b hc).1, Nat.lt_of_lt_of_le (hC b hc).2 hbb.size⟩) hp hJ (fun pre x v d W1 h1 h2 h3 => hY pre (x, v, d) W1 h1 h2 h3) hJ0

theorem goodT_keep {C : Nat → Prop} {n : Nat} (hC : ∀ b, C b → b < n) (x : Ty × Value × Nat) (A B : World) (h : GoodNT C x A) (hb : Below n A B) : GoodNT C x B :=
  nstaysT h ⟨hb.size, fun b hc _ => hb.block b (hC b hc)⟩

def MakesIterT (t : Ty) (p : Option Addr) (c : Nat) (w : World) (e : Ending) (w' : World) : Prop := ∃ Bt Bp, e = .returned (iterT Bt Bp) ∧ IterT w' t p c Bt Bp ∧ Below w.heap.size w w' ∧ w.heap.size ≤ Bt ∧ w.heap.size ≤ Bp
set_option maxRecDepth 100000 in
theorem tnT_any {C : Nat → Prop} {t : Ty} {p : Option Addr} {c : Nat} {w : World} (h : TS' w C t p c) : Calls Tryd.prog 79 #[.agg #[.int .i64 t.kind, .slice p t.args.length c]] w (MakesIterT t p c w) := by
  have HT := Lib.hid (h.mono (C' := (· < w.heap.size)) (fun _ _ hl => hl))
  clear h
  go_enter Tryd.func79, Tryd.ntmps79
  go_wp2
  obtain ⟨wl, hwl, hsz, hbl, _, k1, k2⟩ := box_new3 w #[.int .i64 t.kind, .slice p t.args.length c] #[.int .i64 t.kind, .slice p t.args.length c] #[.func (.func 85) #[] #[]] 26 26 106
  rw [hwl]
  go_ret
  exact ⟨_, _, rfl, ⟨k1, k2, (HT.out.stays (.of_below hbl)).mono (fun z hz _ => by omega)⟩, hbl, by omega, by omega⟩

theorem walkT_pre {pre : List (Ty × Nat)} {t : Ty} (h : pre <+: walkT t 1) (hn : t.nodes ≤ 1048577) : pre.length ≤ 1048577 := by
  have h1 := h.length_le
  rw [walkT_length] at h1
  omega

/-- The greatest depth so far. -/
def maxdT : List (Ty × Nat) → Nat
  | [] => 0
  | e :: l => max e.2 (maxdT l)
theorem maxdT_append (a b : List (Ty × Nat)) : maxdT (a ++ b) = max (maxdT a) (maxdT b) := by
  induction a with
  | nil => simp [maxdT]
  | cons e a ih => simp only [List.cons_append, maxdT, ih]; omega
theorem maxdT_snoc (a : List (Ty × Nat)) (e : Ty × Nat) : maxdT (a ++ [e]) = max (maxdT a) e.2 := by rw [maxdT_append]; simp [maxdT]
theorem maxdT_prefix {a b : List (Ty × Nat)} (h : a <+: b) : maxdT a ≤ maxdT b := by
  obtain ⟨c, rfl⟩ := h
  rw [maxdT_append]
  omega
theorem maxdT_le {l : List (Ty × Nat)} {n : Nat} : maxdT l ≤ n ↔ ∀ e ∈ l, e.2 ≤ n := by
  induction l with
  | nil => simp [maxdT]
  | cons e l ih =>
    rw [List.forall_mem_cons, ← ih]
    simp only [maxdT]
    omega
mutual
theorem maxdT_walk : ∀ (t : Ty) (d : Nat), maxdT (walkT t d) + 1 = d + t.depth
  | .mk k ts, d => by
    have h := maxdT_walkS ts d
    simp only [walkT, maxdT, Ty.depth]
    omega
theorem maxdT_walkS : ∀ (ts : List Ty) (d : Nat), max d (maxdT (walkST ts (d + 1))) = d + depthS ts
  | [], d => by simp [walkST, maxdT, depthS]
  | t :: ts, d => by
    have h1 := maxdT_walkS ts d
    have h2 := maxdT_walk t (d + 1)
    simp only [walkST, maxdT_append, depthS]
    omega
end

end Go.Proofs.YtnciibngcaajgaaDoor
/- WithinT: The contract of the program's withinLimits at a type (genwithin.py writes this text). -/
namespace Go.Proofs.YtnciibngcaajgaaDoor
open Go Go.RowKit Go.Shelf
attribute [local go_sem] Oper.semAt_some

/-- What the loop has found: all so far are right. -/
def SoFarT (ok : Ty → Bool) (ms md : Nat) (pre : List (Ty × Nat)) : Prop := (∀ e ∈ pre, ok e.1 = true ∧ e.2 ≤ md) ∧ pre.length ≤ ms
theorem soFarT_nil (ok : Ty → Bool) (ms md : Nat) : SoFarT ok ms md [] := ⟨by simp, by simp⟩
theorem SoFarT.next {ok : Ty → Bool} {ms md : Nat} {pre : List (Ty × Nat)} {x : Ty} {d : Nat} (h : SoFarT ok ms md pre) (h1 : ok x = true) (h2 : d ≤ md) (h3 : pre.length + 1 ≤ ms) : SoFarT ok ms md (pre ++ [(x, d)]) := by
  refine ⟨fun e he => ?_, by rw [List.length_append, List.length_singleton]; exact h3⟩
  rcases List.mem_append.1 he with he | he
  · exact h.1 e he
  · simp only [List.mem_singleton] at he; subst he; exact ⟨h1, h2⟩
theorem SoFarT.not {ok : Ty → Bool} {ms md : Nat} {t x : Ty} {d : Nat} {pre : List (Ty × Nat)} (h : pre ++ [(x, d)] <+: walkT t 1) (hb : ¬ (ok x = true ∧ d ≤ md ∧ pre.length + 1 ≤ ms)) : ¬ ((∀ e ∈ walkT t 1, ok e.1 = true ∧ e.2 ≤ md) ∧ t.nodes ≤ ms) := by
  rintro ⟨h1, h2⟩
  obtain ⟨h3, h4⟩ := h1 (x, d) (h.subset (by simp))
  have h5 := h.length_le
  rw [walkT_length, List.length_append, List.length_singleton] at h5
  exact hb ⟨h3, h4, by omega⟩

set_option maxRecDepth 100000 in
set_option maxHeartbeats 2000000 in
theorem withinT_any {t : Ty} {p : Option Addr} {c : Nat} {Bt Bp : Nat} {w : World} (h : IterT w t p c Bt Bp) (hn : t.nodes ≤ 1048577) (pf : FuncId) (ok : Ty → Bool) (ms md : Nat) (hpe : ∀ args w, (callFunc pf args).run Tryd.prog w = .ok (.enter pf args) w)
    (hp : ∀ (x : Ty) (v : Value) (d : Nat) (W : World), (x, d) ∈ walkT t 1 → NT W (· < w.heap.size) x v → Below w.heap.size w W → Calls Tryd.prog pf #[v] W (BoolRet (fun b => b = ok x) W)) :
    Calls Tryd.prog 78 #[iterT Bt Bp, .func (.func pf) #[] #[], .int .i64 (ms : Nat), .int .i64 (md : Nat)] w (BoolRet (fun r => r = true ↔ (∀ e ∈ walkT t 1, ok e.1 = true ∧ e.2 ≤ md) ∧ t.nodes ≤ ms) w) := by
  have HI := Lib.hid h
  have HPF := Lib.hid hp
  have HPE := Lib.hid hpe
  clear h hp hpe
  refine (callsIn_wide (n := 2)).1 ?_
  refine callsIn_of_wp_marks Tryd.func78 rfl trivial ?_ rfl
  simp only [Tryd.ntmps78, List.size_toArray, List.length_cons, List.length_nil, Nat.reduceAdd, Nat.reduceSub, Array.replicate_succ, Array.replicate_zero, List.push_toArray, List.append_toArray, List.nil_append, List.cons_append]
  gi_wp2_with fail
  obtain ⟨wl, hwl, hsz, hbl, k0, k1, k2, k3, k4⟩ := box_new5 w #[.func (.func pf) #[] #[]] #[.int .i64 (ms : Nat)] #[.int .i64 (md : Nat)] #[.bool false] #[.int .i64 0] 81 3 3 4 3
  rw [hwl]
  refine range_law (F := Fence.wide) (n := 2) rfl (by omega) (gf := 90) (lb := #[.pointer (some ⟨Bt, 0, none⟩), .pointer (some ⟨Bp, 0, none⟩)]) rfl trivial (enters_of Tryd.func90 (by kernel_rfl) rfl)
    (nodesT_seq HI.out hn hbl (fun b => b = w.heap.size + 3 ∨ b = w.heap.size + 4) (fun b h => by omega)) (fun _ => rfl) (fun b h => by omega)
    (fun pre W => W.heap[w.heap.size]? = some (.cells #[.func (.func pf) #[] #[]] 81 (0, 0)) ∧ W.heap[w.heap.size + 1]? = some (.cells #[.int .i64 (ms : Nat)] 3 (0, 0)) ∧ W.heap[w.heap.size + 1 + 1]? = some (.cells #[.int .i64 (md : Nat)] 3 (0, 0)) ∧
      W.heap[w.heap.size + 1 + 1 + 1]? = some (.cells #[.bool false] 4 (0, 0)) ∧ W.heap[w.heap.size + 1 + 1 + 1 + 1]? = some (.cells #[.int .i64 (pre.length : Nat)] 3 (0, 0)) ∧ SoFarT ok ms md pre ∧ Below w.heap.size w W)
    (fun j pre W => j = .ret ∧ W.cell? ⟨w.heap.size + 1 + 1 + 1, 0, none⟩ = some (.bool false) ∧ ¬ ((∀ e ∈ walkT t 1, ok e.1 = true ∧ e.2 ≤ md) ∧ t.nodes ≤ ms) ∧ Below w.heap.size w W)
    (fun pre A B h hb => ⟨(hb.block _ (by omega)).trans h.1, (hb.block _ (by omega)).trans h.2.1, (hb.block _ (by omega)).trans h.2.2.1, (hb.block _ (by omega)).trans h.2.2.2.1, (hb.block _ (by omega)).trans h.2.2.2.2.1, h.2.2.2.2.2.1, h.2.2.2.2.2.2.trans (hb.mono (by omega))⟩)
    (fun j pre A B h hb => ⟨h.1, (hb.cell (by show w.heap.size + 1 + 1 + 1 < _; omega)).trans h.2.1, h.2.2.1, h.2.2.2.trans (hb.mono (by omega))⟩)
    (goodT_keep (fun b h => by omega)) ⟨k0, k1, k2, k3, k4, soFarT_nil ok ms md, hbl⟩
    (fun x a' W => ∃ bx, W.heap[bx]? = some (.cells x.2.1.cells 26 (0, 0)) ∧ a' = { tmps := #[iterT Bt Bp, .func (.func pf) #[] #[], .int .i64 (ms : Nat), .int .i64 (md : Nat), undef, .pointer (some ⟨w.heap.size, 0, none⟩), .pointer (some ⟨w.heap.size + 1, 0, none⟩), .pointer (some ⟨w.heap.size + 1 + 1, 0, none⟩), .pointer (some ⟨w.heap.size + 1 + 1 + 1, 0, none⟩), .pointer (some ⟨w.heap.size + 1 + 1 + 1 + 1, 0, none⟩),
      .pointer (some ⟨bx, 0, none⟩), .int .i64 (x.2.2 : Nat), iterT Bt Bp, x.2.1, .int .i64 (x.2.2 : Nat), undef, undef, undef, undef, undef, undef, undef, undef, undef, undef, undef, undef, undef, undef, undef, undef], defers := [] })
    (fun x a' W l r o h hl => by
      obtain ⟨bx, h2, h3⟩ := h
      exact ⟨bx, (World.putObj_heap_other (fun e => by rw [e, hl] at h2; cases h2)).trans h2, h3⟩) ?assign ?body ?done ?stop
  case assign =>
    rintro l ⟨x, v, d⟩ W K hG hK
    have hG : TT W (· < w.heap.size) x v := hG
    obtain ⟨s', rfl, hG'⟩ := hG
    obtain ⟨p', c', rfl⟩ := hG'.form
    have HK := Lib.hid hK
    clear hK
    gi_wp2
    exact HK.out _ _ ((Below.refl _ _).alloc (Nat.le_refl _) _) ⟨W.heap.size, blk_new _ _, by simp⟩
  case body =>
    rintro l pre ⟨x, v, d⟩ a' W ⟨hf, hms', hmd', hr, hs, hso, hB⟩ hpre hG ⟨bx, hbx, rfl⟩
    have hpre : pre ++ [(x, d)] <+: walkT t 1 := hpre
    have hbx : W.heap[bx]? = some (.cells v.cells 26 (0, 0)) := hbx
    have hlen := walkT_pre hpre hn
    rw [List.length_append, List.length_singleton] at hlen
    have hd : d ≤ 1048577 := by
      have h1 := maxdT_prefix hpre
      have h2 := maxdT_walk t 1
      have h3 := t.depth_nodes
      rw [maxdT_snoc] at h1
      simp only at h1
      omega
    have hmem : (x, d) ∈ walkT t 1 := hpre.subset (by simp)
    have hG : TT W (· < w.heap.size) x v := hG
    obtain ⟨s', rfl, hG'⟩ := hG
    obtain ⟨p', c', rfl⟩ := hG'.form
    simp only [Value.cells] at hbx
    have s0 := cell_of_blk hs 0
    have sz := unfrozen_of_blk hs 0
    have f0 := cell_of_blk hf 0
    have x0 := cell_of_blk hbx 0
    have x1 := cell_of_blk hbx 1
    simp only [List.getElem?_toArray, List.getElem?_cons_zero, List.getElem?_cons_succ] at x0 x1
    simp only [List.getElem?_toArray, List.getElem?_cons_zero] at s0 f0
    let W1 := W.setCell ⟨w.heap.size + 1 + 1 + 1 + 1, 0, none⟩ (.int .i64 ((pre.length : Nat) + 1))
    have hne : bx ≠ w.heap.size + 1 + 1 + 1 + 1 := fun e => by rw [e, hs] at hbx; simp at hbx
    have hs1 : W1.heap[w.heap.size + 1 + 1 + 1 + 1]? = some (.cells #[.int .i64 ((pre.length : Nat) + 1)] 3 (0, 0)) := by
      rw [show W1 = W.setCell ⟨w.heap.size + 1 + 1 + 1 + 1, 0, none⟩ (.int .i64 ((pre.length : Nat) + 1)) from rfl, Go.Joins.block_setCell hs]; rfl
    have oth : ∀ b, b ≠ w.heap.size + 1 + 1 + 1 + 1 → W1.heap[b]? = W.heap[b]? := fun b hb => Below.heap_setCell _ _ _ _ hb
    have hH1 : Holds (fun b => b = w.heap.size + 3 ∨ b = w.heap.size + 4) W W1 := Holds.setCell (Holds.refl _ W) ⟨w.heap.size + 1 + 1 + 1 + 1, 0, none⟩ (Or.inr rfl) _
    have hB1 : Below w.heap.size w W1 := hB.setCell (p := ⟨w.heap.size + 1 + 1 + 1 + 1, 0, none⟩) (by show w.heap.size ≤ w.heap.size + 1 + 1 + 1 + 1; omega) _
    have hG1 : NT W1 (· < w.heap.size) x (.agg #[.int .i64 x.kind, .slice p' x.args.length c']) := nstaysT (ntT_mk hG') ⟨hH1.1, fun b hb _ => oth b (by omega)⟩
    have HC := Lib.hid (HPF.out x _ d W1 hmem hG1 hB1)
    have HF1 := Lib.hid ((oth _ (by omega)).trans hf)
    have HMS := Lib.hid ((oth _ (by omega)).trans hms')
    have HMD := Lib.hid ((oth _ (by omega)).trans hmd')
    have HR1 := Lib.hid ((oth _ (by omega)).trans hr)
    have HS1 := Lib.hid hs1
    have HH1 := Lib.hid hH1
    have HB1 := Lib.hid hB1
    have HSO := Lib.hid hso
    have HP := Lib.hid hpre
    have HMEM := Lib.hid hmem
    clear hs1 hH1 hB1 hso hpre hs hr hf hms' hmd' hbx hB k0 k1 k2 k3 k4 hG' hG1 hbl hwl oth hmem
    gi_wp2_with fail
    refine ⟨trivial, ?_⟩
    rw [HPE.out]
    refine ⟨(fun h => by cases h), ?_⟩
    refine (CallsIn.inRound l (callsIn_wide.2 HC.out)).mono ?_
    rintro e W2 ⟨b, hb, rfl, hb2⟩
    have l1 := (Array.getElem?_eq_some_iff.1 HS1.out).1
    have l2 := (Array.getElem?_eq_some_iff.1 HR1.out).1
    have l3 := (Array.getElem?_eq_some_iff.1 HMS.out).1
    have l4 := (Array.getElem?_eq_some_iff.1 HMD.out).1
    have l5 := (Array.getElem?_eq_some_iff.1 HF1.out).1
    have s2 := cell_of_blk ((hb2.block _ l1).trans HS1.out) 0
    have r2 := cell_of_blk ((hb2.block _ l2).trans HR1.out) 0
    have rz := unfrozen_of_blk ((hb2.block _ l2).trans HR1.out) 0
    have m2 := cell_of_blk ((hb2.block _ l3).trans HMS.out) 0
    have n2 := cell_of_blk ((hb2.block _ l4).trans HMD.out) 0
    simp only [List.getElem?_toArray, List.getElem?_cons_zero] at s2 r2 m2 n2
    have HF2 := Lib.hid ((hb2.block _ l5).trans HF1.out)
    have HMS2 := Lib.hid ((hb2.block _ l3).trans HMS.out)
    have HMD2 := Lib.hid ((hb2.block _ l4).trans HMD.out)
    have HS2 := Lib.hid ((hb2.block _ l1).trans HS1.out)
    have HR2 := Lib.hid ((hb2.block _ l2).trans HR1.out)
    have hH2 : Holds (fun b => b = w.heap.size + 3 ∨ b = w.heap.size + 4) W W2 := HH1.out.trans (.of_below hb2)
    have hB2 : Below w.heap.size w W2 := HB1.out.trans (hb2.mono HB1.out.size)
    have finR : ¬ (ok x = true ∧ d ≤ md ∧ pre.length + 1 ≤ ms) → Holds (fun b => b = w.heap.size + 3 ∨ b = w.heap.size + 4) W (W2.setCell ⟨w.heap.size + 1 + 1 + 1, 0, none⟩ (.bool false)) ∧
        ((W2.setCell ⟨w.heap.size + 1 + 1 + 1, 0, none⟩ (.bool false)).cell? ⟨w.heap.size + 1 + 1 + 1, 0, none⟩ = some (.bool false) ∧ ¬ ((∀ e ∈ walkT t 1, ok e.1 = true ∧ e.2 ≤ md) ∧ t.nodes ≤ ms) ∧ Below w.heap.size w (W2.setCell ⟨w.heap.size + 1 + 1 + 1, 0, none⟩ (.bool false))) := fun hv =>
      ⟨hH2.setCell ⟨w.heap.size + 1 + 1 + 1, 0, none⟩ (Or.inl rfl) _, World.cell?_setCell_same' _ _ _ (by rw [r2]; rfl), SoFarT.not HP.out hv, hB2.setCell (p := ⟨w.heap.size + 1 + 1 + 1, 0, none⟩) (by show w.heap.size ≤ w.heap.size + 1 + 1 + 1; omega) _⟩
    have finN : ok x = true → d ≤ md → pre.length + 1 ≤ ms → Holds (fun b => b = w.heap.size + 3 ∨ b = w.heap.size + 4) W W2 ∧
        (W2.heap[w.heap.size]? = some (.cells #[.func (.func pf) #[] #[]] 81 (0, 0)) ∧ W2.heap[w.heap.size + 1]? = some (.cells #[.int .i64 (ms : Nat)] 3 (0, 0)) ∧ W2.heap[w.heap.size + 1 + 1]? = some (.cells #[.int .i64 (md : Nat)] 3 (0, 0)) ∧
        W2.heap[w.heap.size + 1 + 1 + 1]? = some (.cells #[.bool false] 4 (0, 0)) ∧ W2.heap[w.heap.size + 1 + 1 + 1 + 1]? = some (.cells #[.int .i64 ((pre ++ [(x, d)]).length : Nat)] 3 (0, 0)) ∧ SoFarT ok ms md (pre ++ [(x, d)]) ∧ Below w.heap.size w W2) := fun h1 h2 h3 =>
      ⟨hH2, HF2.out, HMS2.out, HMD2.out, HR2.out, by rw [HS2.out, List.length_append, List.length_singleton]; rfl, HSO.out.next h1 h2 h3, hB2⟩
    have FR := Lib.hid finR
    have FN := Lib.hid finN
    have HBB := Lib.hid hb
    clear finR finN hH2 hB2 hb2 hb s0 sz f0 x0 x1 l1 l2 l3 l4 l5
    have d0 : (0 : Int) ≤ (d : Int) := Int.natCast_nonneg _
    cases b with
    | true =>
      by_cases h30 : (ms : Int) < (pre.length : Int) + 1
      · gi_wp2_with fail
        exact (fun h => ⟨h.1, rfl, h.2⟩) (FR.out (fun h => by omega))
      · by_cases h8 : (md : Int) < (d : Int)
        · gi_wp2_with fail
          exact (fun h => ⟨h.1, rfl, h.2⟩) (FR.out (fun h => by omega))
        · gi_wp2_with fail
          exact FN.out HBB.out.symm (by omega) (by omega)
    | false =>
      gi_wp2_with fail
      exact (fun h => ⟨h.1, rfl, h.2⟩) (FR.out (fun h => by have := HBB.out; rw [h.1] at this; exact absurd this (by decide)))
  case done =>
    rintro D W hD ⟨_, _, _, hr, _, hso, hB⟩ hK
    have r0 := cell_of_blk hr 0
    have rz := unfrozen_of_blk hr 0
    simp only [List.getElem?_toArray, List.getElem?_cons_zero] at r0
    have HV := Lib.hid (show (∀ e ∈ walkT t 1, ok e.1 = true ∧ e.2 ≤ md) ∧ t.nodes ≤ ms from ⟨hso.1, by have := hso.2; rwa [walkT_length] at this⟩)
    have HB := Lib.hid hB
    have HK := Lib.hid hK
    have hK' : (W.setCell ⟨w.heap.size + 1 + 1 + 1, 0, none⟩ (.bool true)).heap[D]? = some (.deferred (some [])) := (Below.heap_setCell _ _ _ _ (by show D ≠ w.heap.size + 1 + 1 + 1; omega)).trans hK
    clear hso hB hr hK k0 k1 k2 k3 k4 hbl hwl
    gi_wp2_with fail
    refine ⟨by simp, .inl ⟨_, _, rfl, run_takeDeferred hK', ?_⟩⟩
    have hc := (World.cell?_of_block (a := ⟨w.heap.size + 1 + 1 + 1, 0, none⟩) (w' := (W.setCell ⟨w.heap.size + 1 + 1 + 1, 0, none⟩ (.bool true)).putObj D (.deferred none)) (World.putObj_heap_other (by show w.heap.size + 1 + 1 + 1 ≠ D; omega))).trans (World.cell?_setCell_same' W ⟨w.heap.size + 1 + 1 + 1, 0, none⟩ (.bool true) (by rw [r0]; rfl))
    refine ⟨.bool true, ?_, _, ⟨fun _ => HV.out, fun _ => rfl⟩, rfl, (HB.out.setCell (p := ⟨w.heap.size + 1 + 1 + 1, 0, none⟩) (by show w.heap.size ≤ w.heap.size + 1 + 1 + 1; omega) _).trans (below_putObj _ _ _ _ (by omega))⟩
    rw [results_cell1 rfl]
    go_simp
  case stop =>
    rintro D c pre W hD hpre ⟨rfl, hr, hv, hB⟩ hK
    have HB := Lib.hid hB
    have HV := Lib.hid hv
    clear hv hB k0 k1 k2 k3 k4 hbl hwl
    gi_wp2_with fail
    refine ⟨by simp, .inl ⟨_, _, rfl, run_takeDeferred hK, ?_⟩⟩
    have hc := (World.cell?_of_block (a := ⟨w.heap.size + 1 + 1 + 1, 0, none⟩) (w' := W.putObj D (.deferred none)) (World.putObj_heap_other (by show w.heap.size + 1 + 1 + 1 ≠ D; omega))).trans hr
    refine ⟨.bool false, ?_, _, ⟨fun h => by simp at h, fun h => absurd h HV.out⟩, rfl, HB.out.trans (below_putObj _ _ _ _ (by omega))⟩
    rw [results_cell1 rfl]
    go_simp
#print axioms withinT_any
end Go.Proofs.YtnciibngcaajgaaDoor
/- ValidT: The contracts of the program's IsValidType and IsPlainType. -/
namespace Go.Proofs.YtnciibngcaajgaaDoor
open Go Go.RowKit Go.Shelf
attribute [local go_sem] Oper.semAt_some

/-- The node is of one of the four kinds, with its number of parts. -/
def okK (x : Ty) : Bool := if x.kind = 1 ∨ x.kind = 2 then x.args.length == 0 else if x.kind = 3 then x.args.length == 2 else x.kind == 4 && x.args.length == 1
theorem form_at (t : Ty) : t.form = (formS t.args && okK t) := by cases t; rw [Ty.form]; rfl
mutual
theorem form_walk : ∀ (t : Ty) (d : Nat), t.form = true ↔ ∀ e ∈ walkT t d, okK e.1 = true
  | .mk k ts, d => by
    have h := form_walkST ts (d + 1)
    rw [form_at, Bool.and_eq_true]
    simp only [Ty.args_mk, walkT, List.forall_mem_cons, h]
    exact And.comm
theorem form_walkST : ∀ (ts : List Ty) (d : Nat), formS ts = true ↔ ∀ e ∈ walkST ts d, okK e.1 = true
  | [], d => by simp [formS, walkST]
  | t :: ts, d => by
    have h1 := form_walkST ts d
    have h2 := form_walk t d
    simp only [formS, walkST, Bool.and_eq_true, List.forall_mem_append, h1, h2]
end
theorem valid_walk (t : Ty) : t.valid = true ↔ (∀ e ∈ walkT t 1, okK e.1 = true ∧ e.2 ≤ 8) ∧ t.nodes ≤ 30 := by
  have h1 := form_walk t 1
  have h2 : t.depth ≤ 8 ↔ ∀ e ∈ walkT t 1, e.2 ≤ 8 := by
    rw [← maxdT_le]
    have := maxdT_walk t 1
    omega
  simp only [Ty.valid, Bool.and_eq_true, decide_eq_true_eq]
  rw [h1, h2]
  constructor
  · rintro ⟨⟨a, b⟩, c⟩
    exact ⟨fun e he => ⟨c e he, b e he⟩, a⟩
  · rintro ⟨a, b⟩
    exact ⟨⟨b, fun e he => (a e he).2⟩, fun e he => (a e he).1⟩
theorem okK_kind (x : Ty) : okK x = true ↔ (x.kind = 1 ∧ x.args.length = 0) ∨ (x.kind = 2 ∧ x.args.length = 0) ∨ (x.kind = 3 ∧ x.args.length = 2) ∨ (x.kind = 4 ∧ x.args.length = 1) := by
  unfold okK
  by_cases h1 : x.kind = 1 ∨ x.kind = 2
  · rw [if_pos h1]; simp only [beq_iff_eq]; omega
  · rw [if_neg h1]
    by_cases h3 : x.kind = 3
    · rw [if_pos h3]; simp only [beq_iff_eq]; omega
    · rw [if_neg h3]; simp only [Bool.and_eq_true, beq_iff_eq]; omega

set_option maxRecDepth 100000 in
theorem proper_any {C : Nat → Prop} {x : Ty} {v : Value} {w : World} (h : TT w C x v) : Calls Tryd.prog 76 #[v] w (BoolRet (fun b => b = okK x) w) := by
  obtain ⟨s, rfl, hS⟩ := h
  obtain ⟨p, c, rfl⟩ := hS.form
  have HL := Lib.hid hS.len
  have HOK := Lib.hid (okK_kind x)
  clear hS
  go_enter Tryd.func76, Tryd.ntmps76
  go_wp2_with fail
  refine (kindOf_any x.kind p x.args.length c _ HL.out).mono ?_
  rintro e w1 ⟨rfl, hb⟩
  have HB := Lib.hid hb
  clear hb
  rcases kindV_cases x.kind x.args.length with ⟨hc, hk⟩ | ⟨hc, hk⟩ | ⟨hc, hk⟩ | ⟨hc, hk⟩ | ⟨hc, hk⟩
  · rw [hk]
    have HO1 := Lib.hid (HOK.out.2 (by omega))
    clear hc hk
    go_wp2_with fail
    go_ret
    exact ⟨_, HO1.out.symm, rfl, ((Below.refl w.heap.size w).alloc (Nat.le_refl _) _).trans (HB.out.mono (by simp))⟩
  · rw [hk]
    have HO1 := Lib.hid (HOK.out.2 (by omega))
    clear hc hk
    go_wp2_with fail
    go_ret
    exact ⟨_, HO1.out.symm, rfl, ((Below.refl w.heap.size w).alloc (Nat.le_refl _) _).trans (HB.out.mono (by simp))⟩
  · rw [hk]
    have HO1 := Lib.hid (HOK.out.2 (by omega))
    clear hc hk
    go_wp2_with fail
    go_ret
    exact ⟨_, HO1.out.symm, rfl, ((Below.refl w.heap.size w).alloc (Nat.le_refl _) _).trans (HB.out.mono (by simp))⟩
  · rw [hk]
    have HO1 := Lib.hid (HOK.out.2 (by omega))
    clear hc hk
    go_wp2_with fail
    go_ret
    exact ⟨_, HO1.out.symm, rfl, ((Below.refl w.heap.size w).alloc (Nat.le_refl _) _).trans (HB.out.mono (by simp))⟩
  · rw [hk]
    have HO1 := Lib.hid (show okK x = false by cases h : okK x with | false => rfl | true => have := HOK.out.1 h; omega)
    clear hc hk
    go_wp2_with fail
    go_ret
    exact ⟨_, HO1.out.symm, rfl, ((Below.refl w.heap.size w).alloc (Nat.le_refl _) _).trans (HB.out.mono (by simp))⟩

set_option maxRecDepth 100000 in
theorem validI_any {C : Nat → Prop} {t : Ty} {v : Value} {w : World} (h : TT w C t v) (hn : nodesS t.args ≤ 1048576) :
    Calls Tryd.prog 58 #[v] w (BoolRet (fun r => r = t.valid) w) := by
  have hn' : t.nodes ≤ 1048577 := by have := t.nodes_eq; omega
  obtain ⟨s, rfl, hS⟩ := h
  obtain ⟨p, c, rfl⟩ := hS.form
  have HT := Lib.hid (fun (A : Array Value) (T : TypeId) => tnT_any (hS.stays (.of_below ((Below.refl w.heap.size w).alloc (Nat.le_refl _) (.cells A T)))))
  clear hS
  go_enter Tryd.func58, Tryd.ntmps58
  go_wp2_with fail
  refine (HT.out _ _).mono ?_
  rintro e w1 ⟨Bt, Bp, rfl, hI, hb, -⟩
  have HI := Lib.hid hI
  have HB := Lib.hid hb
  clear hI hb
  go_wp2_with fail
  refine (withinT_any HI.out hn' 76 okK 30 8 (enters_of Tryd.func76 (by kernel_rfl) rfl) (fun x v d W _ hx _ => proper_any hx)).mono ?_
  rintro e w2 ⟨r, hr, rfl, hb2⟩
  have HR := Lib.hid (show r = t.valid by
    have h1 := valid_walk t
    rw [← hr] at h1
    cases r <;> cases hv : t.valid <;> simp_all)
  have HB2 := Lib.hid hb2
  clear hr hb2
  go_wp2_with fail
  go_ret
  exact ⟨_, HR.out, rfl, (((Below.refl w.heap.size w).alloc (Nat.le_refl _) _).trans (HB.out.mono (by simp))).trans (HB2.out.mono (by have := HB.out.size; simp at this; omega))⟩
#print axioms validI_any

mutual
theorem has_walk (q : Int) : ∀ (t : Ty) (d : Nat), t.has q = true ↔ ∃ e ∈ walkT t d, e.1.kind = q
  | .mk k ts, d => by
    have h := has_walkST q ts (d + 1)
    simp only [Ty.has, Bool.or_eq_true, h, walkT, beq_iff_eq, List.mem_cons]
    constructor
    · rintro (⟨e, he, hk⟩ | hk)
      · exact ⟨e, Or.inr he, hk⟩
      · exact ⟨_, Or.inl rfl, hk⟩
    · rintro ⟨e, rfl | he, hk⟩
      · exact Or.inr hk
      · exact Or.inl ⟨e, he, hk⟩
theorem has_walkST (q : Int) : ∀ (ts : List Ty) (d : Nat), hasS q ts = true ↔ ∃ e ∈ walkST ts d, e.1.kind = q
  | [], d => by simp [hasS, walkST]
  | t :: ts, d => by
    have h1 := has_walkST q ts d
    have h2 := has_walk q t d
    simp only [hasS, walkST, Bool.or_eq_true, List.mem_append, h1, h2]
    constructor
    · rintro (⟨e, he, hk⟩ | ⟨e, he, hk⟩)
      · exact ⟨e, Or.inl he, hk⟩
      · exact ⟨e, Or.inr he, hk⟩
    · rintro ⟨e, he | he, hk⟩
      · exact Or.inl ⟨e, he, hk⟩
      · exact Or.inr ⟨e, he, hk⟩
end
/-- None so far is a type of code. -/
def NoCode (pre : List (Ty × Nat)) : Prop := ∀ e ∈ pre, e.1.code = false
theorem NoCode.next {pre : List (Ty × Nat)} {x : Ty} {d : Nat} (h : NoCode pre) (hx : x.code = false) : NoCode (pre ++ [(x, d)]) := by
  intro e he
  rcases List.mem_append.1 he with he | he
  · exact h e he
  · simp only [List.mem_singleton] at he; subst he; exact hx
theorem plain_of {t : Ty} (hv : t.valid = true) (h : NoCode (walkT t 1)) : t.plain = true := by
  rw [Ty.plain, hv, Bool.true_and, Bool.not_eq_true', Bool.eq_false_iff]
  intro hh
  obtain ⟨e, he, hk⟩ := (has_walk 4 t 1).1 hh
  have h1 := h e he
  have h2 := (okK_kind e.1).1 (((valid_walk t).1 hv).1 e he).1
  unfold Ty.code at h1
  rw [decide_eq_false_iff_not] at h1
  omega
theorem not_plain_at {t x : Ty} {d : Nat} {pre : List (Ty × Nat)} (h : pre ++ [(x, d)] <+: walkT t 1) (hx : x.code = true) : t.plain = false := by
  have hh : t.has 4 = true := (has_walk 4 t 1).2 ⟨(x, d), h.subset (by simp), by unfold Ty.code at hx; rw [decide_eq_true_eq] at hx; exact hx.1⟩
  rw [Ty.plain, hh]
  simp

end Go.Proofs.YtnciibngcaajgaaDoor
