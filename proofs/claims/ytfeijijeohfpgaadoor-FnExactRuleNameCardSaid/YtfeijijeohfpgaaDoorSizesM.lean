/-
  The contracts of the program's termNodes, countNodes, greatestDepth at a term, and of SizeOf, DepthOf (gensizes.py writes this text).
-/
import Derived.Test.YtfeijijeohfpgaaDoorNodesM
import Derived.Test.YtfeijijeohfpgaaDoorLoopW
namespace Go.Proofs.YtfeijijeohfpgaaDoor
open Go Go.RowKit Go.Shelf
attribute [local go_sem] Oper.semAt_some

theorem nstaysM {w w' : World} {C : Nat → Prop} {t : Tm} {v : Value} (h : NM w C t v) (hs : Stays C w w') : NM w' C t v := TM.stays h hs
abbrev encNM (x : Tm × Value × Nat) : Array Value := #[x.2.1, .int .i64 (x.2.2 : Nat)]
abbrev keyNM (x : Tm × Value × Nat) : Tm × Nat := (x.1, x.2.2)
abbrev GoodNM (C : Nat → Prop) (x : Tm × Value × Nat) (W : World) : Prop := NM W C x.1 x.2.1

/-- The iterator over t's nodes: its two boxes, and t in memory. -/
structure IterM (w : World) (t : Tm) (tp : Option Addr) (tc : Nat) (rp : Option Addr) (rc : Nat) (p : Option Addr) (c : Nat) (Bt Bp : Nat) : Prop where
  bt : w.heap[Bt]? = some (.cells (tmC t tp tc rp rc p c) 35 (0, 0))
  bp : w.heap[Bp]? = some (.cells #[.func (.func 75) #[] #[]] 83 (0, 0))
  node : TM' w (· < w.heap.size) t tp tc rp rc p c
abbrev iterM (Bt Bp : Nat) : Value := .func (.func 106) #[] #[.pointer (some ⟨Bt, 0, none⟩), .pointer (some ⟨Bp, 0, none⟩)]

theorem nodesM_seq {w wl : World} {t : Tm} {tp : Option Addr} {tc : Nat} {rp : Option Addr} {rc : Nat} {p : Option Addr} {c : Nat} {Bt Bp : Nat} (h : IterM w t tp tc rp rc p c Bt Bp) (hn : t.nodes ≤ 2097153) (hb : Below w.heap.size w wl) (Cb : Nat → Prop) (hCb : ∀ b, Cb b → w.heap.size ≤ b ∧ b < wl.heap.size) :
    SeqT Fence.wide 1 Tryd.prog 106 #[.pointer (some ⟨Bt, 0, none⟩), .pointer (some ⟨Bp, 0, none⟩)] encNM keyNM (GoodNM (· < w.heap.size)) Cb (walkM t 1) wl := by
  intro l J Jx W hbW hJ hY hJ0
  have hbt := (Array.getElem?_eq_some_iff.1 h.bt).1
  have hbp := (Array.getElem?_eq_some_iff.1 h.bp).1
  have hbb : Below w.heap.size w W := hb.trans (hbW.mono hb.size)
  exact nodesM_it l Bt Bp t tp tc rp rc p c Cb (· < w.heap.size) W J Jx ((hbb.block _ hbt).trans h.bt) ((hbb.block _ hbp).trans h.bp) (h.node.stays (.of_below hbb)) hn
    (fun b hc => Nat.lt_of_lt_of_le (hCb b hc).2 hbW.size) (fun b hc => ⟨fun h2 => by have := (hCb b h2).1; omega, Nat.lt_of_lt_of_le hc hbb.size⟩) hbp hJ (fun pre x v d W1 h1 h2 h3 => hY pre (x, v, d) W1 h1 h2 h3) hJ0

/-- The same, for whatever blocks hold the tree and for whatever blocks the body may write. -/
theorem nodesM_seq2 {w wl : World} {C : Nat → Prop} {t : Tm} {tp : Option Addr} {tc : Nat} {rp : Option Addr} {rc : Nat} {p : Option Addr} {c : Nat} {Bt Bp : Nat} (h : IterM w t tp tc rp rc p c Bt Bp) (hT : TM' w C t tp tc rp rc p c) (hn : t.nodes ≤ 2097153) (hb : Below w.heap.size w wl) (Cb : Nat → Prop) (hCb : ∀ b, Cb b → b < wl.heap.size) (hC : ∀ b, C b → ¬ Cb b ∧ b < w.heap.size) (hp : C Bp) :
    SeqT Fence.wide 1 Tryd.prog 106 #[.pointer (some ⟨Bt, 0, none⟩), .pointer (some ⟨Bp, 0, none⟩)] encNM keyNM (GoodNM C) Cb (walkM t 1) wl := by
  intro l J Jx W hbW hJ hY hJ0
  have hbt := (Array.getElem?_eq_some_iff.1 h.bt).1
  have hbp := (Array.getElem?_eq_some_iff.1 h.bp).1
  have hbb : Below w.heap.size w W := hb.trans (hbW.mono hb.size)
  exact nodesM_it l Bt Bp t tp tc rp rc p c Cb C W J Jx ((hbb.block _ hbt).trans h.bt) ((hbb.block _ hbp).trans h.bp) (hT.stays (.of_below hbb)) hn
    (fun b hc => Nat.lt_of_lt_of_le (hCb b hc) hbW.size) (fun b hc => ⟨(hC b hc).1, Nat.lt_of_lt_of_le (hC b hc).2 hbb.size⟩) hp hJ (fun pre x v d W1 h1 h2 h3 => hY pre (x, v, d) W1 h1 h2 h3) hJ0

theorem goodM_keep {C : Nat → Prop} {n : Nat} (hC : ∀ b, C b → b < n) (x : Tm × Value × Nat) (A B : World) (h : GoodNM C x A) (hb : Below n A B) : GoodNM C x B :=
  nstaysM h ⟨hb.size, fun b hc _ => hb.block b (hC b hc)⟩

def MakesIterM (t : Tm) (tp : Option Addr) (tc : Nat) (rp : Option Addr) (rc : Nat) (p : Option Addr) (c : Nat) (w : World) (e : Ending) (w' : World) : Prop := ∃ Bt Bp, e = .returned (iterM Bt Bp) ∧ IterM w' t tp tc rp rc p c Bt Bp ∧ Below w.heap.size w w' ∧ w.heap.size ≤ Bt ∧ w.heap.size ≤ Bp
set_option maxRecDepth 100000 in
theorem tnM_any {C : Nat → Prop} {t : Tm} {tp : Option Addr} {tc : Nat} {rp : Option Addr} {rc : Nat} {p : Option Addr} {c : Nat} {w : World} (h : TM' w C t tp tc rp rc p c) : Calls Tryd.prog 65 #[tmV t tp tc rp rc p c] w (MakesIterM t tp tc rp rc p c w) := by
  have HT := Lib.hid (h.mono (C' := (· < w.heap.size)) (fun _ _ hl => hl))
  clear h
  go_enter Tryd.func65, Tryd.ntmps65
  go_wp2
  obtain ⟨wl, hwl, hsz, hbl, _, k1, k2⟩ := box_new3 w (tmC t tp tc rp rc p c) (tmC t tp tc rp rc p c) #[.func (.func 75) #[] #[]] 35 35 83
  rw [hwl]
  go_ret
  exact ⟨_, _, rfl, ⟨k1, k2, (HT.out.stays (.of_below hbl)).mono (fun z hz _ => by omega)⟩, hbl, by omega, by omega⟩

theorem walkM_pre {pre : List (Tm × Nat)} {t : Tm} (h : pre <+: walkM t 1) (hn : t.nodes ≤ 2097153) : pre.length ≤ 2097153 := by
  have h1 := h.length_le
  rw [walkM_length] at h1
  omega

/-- The greatest depth so far. -/
def maxdM : List (Tm × Nat) → Nat
  | [] => 0
  | e :: l => max e.2 (maxdM l)
theorem maxdM_append (a b : List (Tm × Nat)) : maxdM (a ++ b) = max (maxdM a) (maxdM b) := by
  induction a with
  | nil => simp [maxdM]
  | cons e a ih => simp only [List.cons_append, maxdM, ih]; omega
theorem maxdM_snoc (a : List (Tm × Nat)) (e : Tm × Nat) : maxdM (a ++ [e]) = max (maxdM a) e.2 := by rw [maxdM_append]; simp [maxdM]
theorem maxdM_prefix {a b : List (Tm × Nat)} (h : a <+: b) : maxdM a ≤ maxdM b := by
  obtain ⟨c, rfl⟩ := h
  rw [maxdM_append]
  omega
theorem maxdM_le {l : List (Tm × Nat)} {n : Nat} : maxdM l ≤ n ↔ ∀ e ∈ l, e.2 ≤ n := by
  induction l with
  | nil => simp [maxdM]
  | cons e l ih =>
    rw [List.forall_mem_cons, ← ih]
    simp only [maxdM]
    omega
mutual
theorem maxdM_walk : ∀ (t : Tm) (d : Nat), maxdM (walkM t d) + 1 = d + t.depth
  | .mk k a b n t r ts, d => by
    have h := maxdM_walkS ts d
    simp only [walkM, maxdM, Tm.depth]
    omega
theorem maxdM_walkS : ∀ (ts : List Tm) (d : Nat), max d (maxdM (walkSM ts (d + 1))) = d + depthM ts
  | [], d => by simp [walkSM, maxdM, depthM]
  | t :: ts, d => by
    have h1 := maxdM_walkS ts d
    have h2 := maxdM_walk t (d + 1)
    simp only [walkSM, maxdM_append, depthM]
    omega
end

end Go.Proofs.YtfeijijeohfpgaaDoor

