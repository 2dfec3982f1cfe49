/-
  Types ts trees, of no program: what a slice of types holds, that it holds it in every world that keeps its blocks; how many nodes there are.
-/
import Derived.Test.YtfeijijeohfpgaaDoorKit
import Derived.OwnWalk
import Derived.Below
namespace Go.Proofs.YtfeijijeohfpgaaDoor
open Go Go.RowKit

inductive Ty where
  | mk (kind : Int) (args : List Ty)
def Ty.kind : Ty → Int | .mk k _ => k
def Ty.args : Ty → List Ty | .mk _ ts => ts
@[simp] theorem Ty.kind_mk (k : Int) (ts : List Ty) : (Ty.mk k ts).kind = k := rfl
@[simp] theorem Ty.args_mk (k : Int) (ts : List Ty) : (Ty.mk k ts).args = ts := rfl

mutual
/-- The nodes of a type; of a list of types. -/
def Ty.nodes : Ty → Nat
  | .mk _ ts => 1 + nodesS ts
def nodesS : List Ty → Nat
  | [] => 0
  | a :: ts => a.nodes + nodesS ts
end
theorem Ty.nodes_eq (t : Ty) : t.nodes = 1 + nodesS t.args := by cases t; simp [Ty.nodes]
theorem nodesS_append (a b : List Ty) : nodesS (a ++ b) = nodesS a + nodesS b := by
  induction a with
  | nil => simp [nodesS]
  | cons x a ih => simp only [List.cons_append, nodesS, ih]; omega
theorem nodesS_take (ts : List Ty) (k : Nat) (h : k < ts.length) : nodesS (ts.take (k + 1)) = nodesS (ts.take k) + (1 + nodesS ts[k].args) := by
  rw [List.take_add_one, List.getElem?_eq_getElem h, nodesS_append]
  simp [nodesS, Ty.nodes_eq]
theorem nodesS_take_le (ts : List Ty) (k : Nat) : nodesS (ts.take k) ≤ nodesS ts := by
  have h := nodesS_append (ts.take k) (ts.drop k)
  rw [List.take_append_drop] at h
  omega
theorem nodesS_ge (ts : List Ty) : ts.length ≤ nodesS ts := by
  induction ts with
  | nil => simp
  | cons a ts ih => simp only [List.length_cons, nodesS, Ty.nodes_eq]; omega
theorem nodesS_at (ts : List Ty) (k : Nat) (h : k < ts.length) : 1 + nodesS ts[k].args ≤ nodesS ts := by
  have h1 := nodesS_take ts k h
  have h2 := nodesS_take_le ts (k + 1)
  omega

/-- The slice holds just these types; C: the blocks it may lie in. -/
inductive TS (w : World) (C : Nat → Prop) : List Ty → Value → Prop
  | nil (a : Option Addr) (c : Nat) : TS w C [] (.slice a 0 c)
  | cons {ts : List Ty} {b o c : Nat} (S : Nat → Value) (h1 : 1 ≤ ts.length) (hc : ts.length ≤ c) (hm : c ≤ 9223372036854775807) (hC : C b) (hb : b < w.heap.size)
      (hk : ∀ j x, ts[j]? = some x → w.cell? ⟨b, o + j * 2, none⟩ = some (.int .i64 x.kind))
      (hs : ∀ j x, ts[j]? = some x → w.cell? ⟨b, o + j * 2 + 1, none⟩ = some (S j))
      (hr : ∀ j x, ts[j]? = some x → TS w C x.args (S j)) : TS w C ts (.slice (some ⟨b, o, none⟩) ts.length c)

/-- What stays ts it was in the blocks of C. -/
def Stays (C : Nat → Prop) (w w' : World) : Prop := w.heap.size ≤ w'.heap.size ∧ ∀ b, C b → b < w.heap.size → w'.heap[b]? = w.heap[b]?
theorem Stays.of_below {C : Nat → Prop} {w w' : World} (h : Below w.heap.size w w') : Stays C w w' := ⟨h.size, fun b _ hb => h.block b hb⟩
theorem Stays.refl (C : Nat → Prop) (w : World) : Stays C w w := ⟨Nat.le_refl _, fun _ _ _ => rfl⟩
theorem Stays.mono {C C' : Nat → Prop} {w w' : World} (h : Stays C w w') (hc : ∀ z, C' z → C z) : Stays C' w w' := ⟨h.1, fun b hb hl => h.2 b (hc b hb) hl⟩
theorem Stays.trans {C : Nat → Prop} {a b c : World} (h : Stays C a b) (k : Stays C b c) : Stays C a c :=
  ⟨Nat.le_trans h.1 k.1, fun i hi hl => (k.2 i hi (Nat.lt_of_lt_of_le hl h.1)).trans (h.2 i hi hl)⟩

theorem TS.stays {w w' : World} {C : Nat → Prop} {ts : List Ty} {v : Value} (h : TS w C ts v) (hs : Stays C w w') : TS w' C ts v := by
  induction h with
  | nil a c => exact .nil a c
  | cons S h1 hc hm hC hb hk hS hr ih =>
    refine .cons S h1 hc hm hC (Nat.lt_of_lt_of_le hb hs.1) (fun j x hj => ?_) (fun j x hj => ?_) ih
    · rw [World.cell?_of_block (w := _) (hs.2 _ hC hb)]; exact hk j x hj
    · rw [World.cell?_of_block (w := _) (hs.2 _ hC hb)]; exact hS j x hj
theorem TS.keep {w w' : World} {C : Nat → Prop} {ts : List Ty} {v : Value} (h : TS w C ts v) (hb : Below w.heap.size w w') : TS w' C ts v := h.stays (.of_below hb)
theorem TS.mono {w : World} {C C' : Nat → Prop} {ts : List Ty} {v : Value} (h : TS w C ts v) (hC' : ∀ b, C b → b < w.heap.size → C' b) : TS w C' ts v := by
  induction h with
  | nil a c => exact .nil a c
  | cons S h1 hc hm hC hb hk hS hr ih => exact .cons S h1 hc hm (hC' _ hC hb) hb hk hS ih

/-- A struct value that is the type t. -/
def TT (w : World) (C : Nat → Prop) (t : Ty) (v : Value) : Prop := ∃ s, v = .agg #[.int .i64 t.kind, s] ∧ TS w C t.args s
theorem TT.keep {w w' : World} {C : Nat → Prop} {t : Ty} {v : Value} (h : TT w C t v) (hb : Below w.heap.size w w') : TT w' C t v := by
  obtain ⟨s, hv, h⟩ := h
  exact ⟨s, hv, h.keep hb⟩
theorem TS.form {w : World} {C : Nat → Prop} {ts : List Ty} {v : Value} (h : TS w C ts v) : ∃ a c, v = .slice a ts.length c := by
  cases h with
  | nil a c => exact ⟨a, c, rfl⟩
  | cons => exact ⟨_, _, rfl⟩
theorem TS.len {w : World} {C : Nat → Prop} {ts : List Ty} {v : Value} (h : TS w C ts v) : ts.length ≤ 9223372036854775807 := by
  cases h with
  | nil => simp
  | cons S h1 hc hm => omega
end Go.Proofs.YtfeijijeohfpgaaDoor

