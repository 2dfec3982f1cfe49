/-
  The contracts of the program's typeNodes, countNodes, greatestDepth at a type, and of SizeOfType, DepthOfType (gensizes.py writes this text).
-/
import Derived.Test.YteoeefmdfalnjaaNodesT
import Derived.Test.YteoeefmdfalnjaaLoopW
namespace Go.Proofs.Yteoeefmdfalnjaa
open Go Go.RowKit Go.Shelf
attribute [local go_sem] Oper.semAt_some

theorem nstaysT {w w' : World} {C : Nat → Prop} {t : Ty} {v : Value} (h : NT w C t v) (hs : Stays C w w') : NT w' C t v := by
  obtain ⟨s, hv, h⟩ := h
  exact ⟨s, hv, h.stays hs⟩
abbrev encNT (x : Ty × Value × Nat) : Array Value := #[x.2.1, .int .i64 (x.2.2 : Nat)]
abbrev keyNT (x : Ty × Value × Nat) : Ty × Nat := (x.1, x.2.2)
abbrev GoodNT (C : Nat → Prop) (x : Ty × Value × Nat) (W : World) : Prop := NT W C x.1 x.2.1

/-- The iterator over t's nodes: its two boxes, and t in memory. -/
structure IterT (w : World) (t : Ty) (p : Option Addr) (c : Nat) (Bt Bp : Nat) : Prop where
  bt : w.heap[Bt]? = some (.cells #[.int .i64 t.kind, .slice p t.args.length c] 41 (0, 0))
  bp : w.heap[Bp]? = some (.cells #[.func (.func 43) #[] #[]] 67 (0, 0))
  node : TS' w (· < w.heap.size) t p c
abbrev iterT (Bt Bp : Nat) : Value := .func (.func 50) #[] #[.pointer (some ⟨Bt, 0, none⟩), .pointer (some ⟨Bp, 0, none⟩)]

theorem nodesT_seq {w wl : World} {t : Ty} {p : Option Addr} {c : Nat} {Bt Bp : Nat} (h : IterT w t p c Bt Bp) (hn : t.nodes ≤ 2097153) (hb : Below w.heap.size w wl) (Cb : Nat → Prop) (hCb : ∀ b, Cb b → w.heap.size ≤ b ∧ b < wl.heap.size) :
    SeqT Fence.wide 1 Try.prog 50 #[.pointer (some ⟨Bt, 0, none⟩), .pointer (some ⟨Bp, 0, none⟩)] encNT keyNT (GoodNT (· < w.heap.size)) Cb (walkT t 1) wl := by
  intro l J Jx W hbW hJ hY hJ0
  have hbt := (Array.getElem?_eq_some_iff.1 h.bt).1
  have hbp := (Array.getElem?_eq_some_iff.1 h.bp).1
  have hbb : Below w.heap.size w W := hb.trans (hbW.mono hb.size)
  exact nodesT_it l Bt Bp t p c Cb (· < w.heap.size) W J Jx ((hbb.block _ hbt).trans h.bt) ((hbb.block _ hbp).trans h.bp) (h.node.stays (.of_below hbb)) hn
    (fun b hc => Nat.lt_of_lt_of_le (hCb b hc).2 hbW.size) (fun b hc => ⟨fun h2 => by have := (hCb b h2).1; omega, Nat.lt_of_lt_of_le hc hbb.size⟩) hbp hJ (fun pre x v d W1 h1 h2 h3 => hY pre (x, v, d) W1 h1 h2 h3) hJ0

/-- The same, for whatever blocks hold the tree and for whatever blocks the body may write. -/
theorem nodesT_seq2 {w wl : World} {C : Nat → Prop} {t : Ty} {p : Option Addr} {c : Nat} {Bt Bp : Nat} (h : IterT w t p c Bt Bp) (hT : TS' w C t p c) (hn : t.nodes ≤ 2097153) (hb : Below w.heap.size w wl) (Cb : Nat → Prop) (hCb : ∀ b, Cb b → b < wl.heap.size) (hC : ∀ b, C b → ¬ Cb b ∧ b < w.heap.size) (hp : C Bp) :
    SeqT Fence.wide 1 Try.prog 50 #[.pointer (some ⟨Bt, 0, none⟩), .pointer (some ⟨Bp, 0, none⟩)] encNT keyNT (GoodNT C) Cb (walkT t 1) wl := by
  intro l J Jx W hbW hJ hY hJ0
  have hbt := (Array.getElem?_eq_some_iff.1 h.bt).1
  have hbp := (Array.getElem?_eq_some_iff.1 h.bp).1
  have hbb : Below w.heap.size w W := hb.trans (hbW.mono hb.size)
  exact nodesT_it l Bt Bp t p c Cb C W J Jx ((hbb.block _ hbt).trans h.bt) ((hbb.block _ hbp).trans h.bp) (hT.stays (.of_below hbb)) hn
    (fun b hc => Nat.lt_of_lt_of_le (hCb b hc) hbW.size) (fun b hc => ⟨(hC b hc).1, Nat.lt_of_lt_of_le (hC b hc).2 hbb.size⟩) hp hJ (fun pre x v d W1 h1 h2 h3 => hY pre (x, v, d) W1 h1 h2 h3) hJ0

theorem goodT_keep {C : Nat → Prop} {n : Nat} (hC : ∀ b, C b → b < n) (x : Ty × Value × Nat) (A B : World) (h : GoodNT C x A) (hb : Below n A B) : GoodNT C x B :=
  nstaysT h ⟨hb.size, fun b hc _ => hb.block b (hC b hc)⟩

def MakesIterT (t : Ty) (p : Option Addr) (c : Nat) (w : World) (e : Ending) (w' : World) : Prop := ∃ Bt Bp, e = .returned (iterT Bt Bp) ∧ IterT w' t p c Bt Bp ∧ Below w.heap.size w w' ∧ w.heap.size ≤ Bt ∧ w.heap.size ≤ Bp
set_option maxRecDepth 100000 in
theorem tnT_any {C : Nat → Prop} {t : Ty} {p : Option Addr} {c : Nat} {w : World} (h : TS' w C t p c) : Calls Try.prog 39 #[.agg #[.int .i64 t.kind, .slice p t.args.length c]] w (MakesIterT t p c w) := by
  have HT := Lib.hid (h.mono (C' := (· < w.heap.size)) (fun _ _ hl => hl))
  clear h
  go_enter Try.func39, Try.ntmps39
  go_wp2
  obtain ⟨wl, hwl, hsz, hbl, _, k1, k2⟩ := box_new3 w #[.int .i64 t.kind, .slice p t.args.length c] #[.int .i64 t.kind, .slice p t.args.length c] #[.func (.func 43) #[] #[]] 41 41 67
  rw [hwl]
  go_ret
  exact ⟨_, _, rfl, ⟨k1, k2, (HT.out.stays (.of_below hbl)).mono (fun z hz _ => by omega)⟩, hbl, by omega, by omega⟩

theorem walkT_pre {pre : List (Ty × Nat)} {t : Ty} (h : pre <+: walkT t 1) (hn : t.nodes ≤ 2097153) : pre.length ≤ 2097153 := by
  have h1 := h.length_le
  rw [walkT_length] at h1
  omega

/-- The greatest depth so far. -/
def maxdT : List (Ty × Nat) → Nat
  | [] => 0
  | e :: l => max e.2 (maxdT l)
theorem maxdT_append (a b : List (Ty × Nat)) : maxdT (a ++ b) = max (maxdT a) (maxdT b) := by
  induction a with
  | nil => simp [maxdT]
  | cons e a ih => simp only [List.cons_append, maxdT, ih]; omega
theorem maxdT_snoc (a : List (Ty × Nat)) (e : Ty × Nat) : maxdT (a ++ [e]) = max (maxdT a) e.2 := by rw [maxdT_append]; simp [maxdT]
theorem maxdT_prefix {a b : List (Ty × Nat)} (h : a <+: b) : maxdT a ≤ maxdT b := by
  obtain ⟨c, rfl⟩ := h
  rw [maxdT_append]
  omega
theorem maxdT_le {l : List (Ty × Nat)} {n : Nat} : maxdT l ≤ n ↔ ∀ e ∈ l, e.2 ≤ n := by
  induction l with
  | nil => simp [maxdT]
  | cons e l ih =>
    rw [List.forall_mem_cons, ← ih]
    simp only [maxdT]
    omega
mutual
theorem maxdT_walk : ∀ (t : Ty) (d : Nat), maxdT (walkT t d) + 1 = d + t.depth
  | .mk k ts, d => by
    have h := maxdT_walkS ts d
    simp only [walkT, maxdT, Ty.depth]
    omega
theorem maxdT_walkS : ∀ (ts : List Ty) (d : Nat), max d (maxdT (walkST ts (d + 1))) = d + depthS ts
  | [], d => by simp [walkST, maxdT, depthS]
  | t :: ts, d => by
    have h1 := maxdT_walkS ts d
    have h2 := maxdT_walk t (d + 1)
    simp only [walkST, maxdT_append, depthS]
    omega
end

end Go.Proofs.Yteoeefmdfalnjaa

