/-
  Induction over a type that lies in memory; facts on a parameter's box; the figures of a type.
-/
import Derived.Test.YtfeijijeohfpgaaDoorTySz
import Derived.Test.YtfeijijeohfpgaaDoorTyEq
import Derived.Test.YtfeijijeohfpgaaDoorTyCopy
namespace Go.Proofs.YtfeijijeohfpgaaDoor
open Go Go.RowKit

/-- INDUCTION OVER A TYPE IN MEMORY: each part at its place, in every world that keeps the blocks. -/
theorem TS.ind {w0 : World} {C : Nat → Prop} {motive : List Ty → Value → Prop}
    (step : ∀ (ts : List Ty) (p : Option Addr) (c : Nat), ts.length ≤ 9223372036854775807 →
      (∀ (j : Nat) (x : Ty), ts[j]? = some x → ∃ (b o : Nat) (p' : Option Addr) (c' : Nat), p = some ⟨b, o, none⟩ ∧
        (∀ w', Stays C w0 w' → w'.cell? ⟨b, o + j * 2, none⟩ = some (.int .i64 x.kind) ∧ w'.cell? ⟨b, o + j * 2 + 1, none⟩ = some (.slice p' x.args.length c')) ∧
        TS w0 C x.args (.slice p' x.args.length c') ∧ motive x.args (.slice p' x.args.length c')) → motive ts (.slice p ts.length c))
    {ts : List Ty} {v : Value} (h : TS w0 C ts v) : motive ts v := by
  induction h with
  | nil a c => exact step [] a c (by simp) (fun j x hj => by simp at hj)
  | @cons ts b o c S h1 hc hm hC hb hk hs hr ih =>
    refine step ts _ c (by omega) (fun j x hj => ?_)
    obtain ⟨p', c', hf⟩ := (hr j x hj).form
    refine ⟨b, o, p', c', rfl, fun w' hw => ⟨?_, ?_⟩, hf ▸ hr j x hj, hf ▸ ih j x hj⟩
    · exact (World.cell?_of_block (w := w0) (a := ⟨b, o + j * 2, none⟩) (hw.2 b hC hb)).trans (hk j x hj)
    · rw [← hf]; exact (World.cell?_of_block (w := w0) (a := ⟨b, o + j * 2 + 1, none⟩) (hw.2 b hC hb)).trans (hs j x hj)

/-- A part of a slice of types, in every world that keeps the blocks. -/
theorem TS.at {w0 : World} {C : Nat → Prop} {ts : List Ty} {p : Option Addr} {n c : Nat} (h : TS w0 C ts (.slice p n c)) : ∀ (j : Nat) (x : Ty), ts[j]? = some x → ∃ (b o : Nat) (p' : Option Addr) (c' : Nat), p = some ⟨b, o, none⟩ ∧
    (∀ w', Stays C w0 w' → w'.cell? ⟨b, o + j * 2, none⟩ = some (.int .i64 x.kind) ∧ w'.cell? ⟨b, o + j * 2 + 1, none⟩ = some (.slice p' x.args.length c')) ∧ TS w0 C x.args (.slice p' x.args.length c') := by
  have key := TS.ind (motive := fun ts v => ∀ (p : Option Addr) (n c : Nat), v = .slice p n c → ∀ (j : Nat) (x : Ty), ts[j]? = some x → ∃ (b o : Nat) (p' : Option Addr) (c' : Nat), p = some ⟨b, o, none⟩ ∧
    (∀ w', Stays C w0 w' → w'.cell? ⟨b, o + j * 2, none⟩ = some (.int .i64 x.kind) ∧ w'.cell? ⟨b, o + j * 2 + 1, none⟩ = some (.slice p' x.args.length c')) ∧ TS w0 C x.args (.slice p' x.args.length c')) (fun ts p c _ H p2 n2 c2 e j x hj => by
      obtain ⟨b, o, p', c', hp, hc, hT, _⟩ := H j x hj
      simp only [Value.slice.injEq] at e
      exact ⟨b, o, p', c', e.1 ▸ hp, hc, hT⟩) h
  exact key p n c rfl

/-- A parameter's box in a later world. -/
theorem box_blk (w w' : World) (A : Array Value) (t : TypeId) (h : Below (w.alloc (.cells A t)).heap.size (w.alloc (.cells A t)) w') : w'.heap[w.heap.size]? = some (.cells A t (0, 0)) := by
  rw [h.block _ (by simp)]
  exact blk_new _ _
theorem box2 {w w' : World} {a b : Value} {t : TypeId} (h : Below (w.alloc (.cells #[a, b] t)).heap.size (w.alloc (.cells #[a, b] t)) w') : w'.cell? ⟨w.heap.size, 0, none⟩ = some a ∧ w'.cell? ⟨w.heap.size, 1, none⟩ = some b := by
  have hb := box_blk _ _ _ _ h
  exact ⟨cell_of_blk hb 0, cell_of_blk hb 1⟩
theorem below_box {w w' : World} {A : Array Value} {t : TypeId} (h : Below (w.alloc (.cells A t)).heap.size (w.alloc (.cells A t)) w') : Below w.heap.size w w' :=
  ((Below.refl w.heap.size w).alloc (Nat.le_refl _) _).trans (h.mono (by simp))

mutual
def Ty.depth : Ty → Nat
  | .mk _ ts => 1 + depthS ts
def depthS : List Ty → Nat
  | [] => 0
  | t :: ts => max t.depth (depthS ts)
end
mutual
/-- Every node has one of the four kinds with its number of parts. -/
def Ty.form : Ty → Bool
  | .mk k ts => formS ts && (if k = 1 ∨ k = 2 then ts.length == 0 else if k = 3 then ts.length == 2 else k == 4 && ts.length == 1)
def formS : List Ty → Bool
  | [] => true
  | t :: ts => t.form && formS ts
end
mutual
def Ty.has (q : Int) : Ty → Bool
  | .mk k ts => hasS q ts || k == q
def hasS (q : Int) : List Ty → Bool
  | [] => false
  | t :: ts => t.has q || hasS q ts
end
theorem depthS_append (a b : List Ty) : depthS (a ++ b) = max (depthS a) (depthS b) := by
  induction a with
  | nil => simp [depthS]
  | cons x a ih => simp only [List.cons_append, depthS, ih]; omega
theorem formS_append (a b : List Ty) : formS (a ++ b) = (formS a && formS b) := by
  induction a with
  | nil => simp [formS]
  | cons x a ih => simp [formS, ih, Bool.and_assoc]
theorem hasS_append (q : Int) (a b : List Ty) : hasS q (a ++ b) = (hasS q a || hasS q b) := by
  induction a with
  | nil => simp [hasS]
  | cons x a ih => simp [hasS, ih, Bool.or_assoc]
theorem take_next {ts : List Ty} {k : Nat} (h : k < ts.length) : ts.take (k + 1) = ts.take k ++ [ts[k]] := by
  rw [List.take_add_one, List.getElem?_eq_getElem h]; rfl
theorem Ty.eta (t : Ty) : t = .mk t.kind t.args := by cases t; rfl
theorem depth_at (t : Ty) : t.depth = 1 + depthS t.args := by cases t; simp [Ty.depth]
theorem Ty.has_at (q : Int) (t : Ty) : t.has q = (hasS q t.args || t.kind == q) := by cases t; simp [Ty.has]
theorem depth_le (ts : List Ty) (h : ∀ t ∈ ts, t.depth ≤ t.nodes) : depthS ts ≤ nodesS ts := by
  induction ts with
  | nil => simp [depthS]
  | cons t ts ih =>
    have h1 := h t (List.mem_cons_self ..)
    have h2 := ih (fun u hu => h u (List.mem_cons_of_mem _ hu))
    simp only [depthS, nodesS]
    omega
theorem Ty.depth_nodes : ∀ t : Ty, t.depth ≤ t.nodes
  | .mk k ts => by
    have := depth_le ts (fun t _ => Ty.depth_nodes t)
    simp only [Ty.depth, Ty.nodes]
    omega
theorem depthS_nodes (ts : List Ty) : depthS ts ≤ nodesS ts := depth_le ts (fun t _ => t.depth_nodes)
theorem nodesS_take_next (ts : List Ty) (k : Nat) (h : k < ts.length) : nodesS (ts.take (k + 1)) = nodesS (ts.take k) + ts[k].nodes := by
  rw [take_next h, nodesS_append]; simp [nodesS]
theorem depthS_take_next (ts : List Ty) (k : Nat) (h : k < ts.length) : depthS (ts.take (k + 1)) = max (depthS (ts.take k)) ts[k].depth := by
  rw [take_next h, depthS_append]; simp [depthS]
theorem depthS_at (ts : List Ty) (k : Nat) (h : k < ts.length) : depthS (ts.take k) ≤ 2097152 ∧ ts[k].depth ≤ 2097152 ∨ 2097152 < nodesS ts := by
  have h1 := depthS_nodes (ts.take k)
  have h2 := ts[k].depth_nodes
  have h3 := nodesS_take_next ts k h
  have h4 := nodesS_take_le ts (k + 1)
  omega
end Go.Proofs.YtfeijijeohfpgaaDoor

