/-
  Contexts of any size, of no program: what they weigh, the box of a typing, one typing of a slice.
-/
import Derived.Test.YteoeefmdfalnjaaCtx
import Derived.Test.YteoeefmdfalnjaaGen1
namespace Go.Proofs.Yteoeefmdfalnjaa
open Go Go.RowKit

theorem Tg.ext' {a b : Tg} (h1 : a.nm = b.nm) (h2 : a.ty.kind = b.ty.kind) (h3 : a.ty.args = b.ty.args) (h4 : a.lv = b.lv) : a = b := by
  obtain ⟨n, t, l⟩ := a
  obtain ⟨n', t', l'⟩ := b
  cases t
  cases t'
  simp only [Ty.kind_mk, Ty.args_mk] at h2 h3
  simp only at h1 h4
  subst h1 h2 h3 h4
  rfl
def Tg.wt (x : Tg) : Nat := x.nm.size + nodesS x.ty.args
def wtC : List Tg → Nat
  | [] => 0
  | x :: L => 1 + x.wt + wtC L
theorem wtC_append (a b : List Tg) : wtC (a ++ b) = wtC a + wtC b := by
  induction a with
  | nil => simp [wtC]
  | cons x a ih => simp only [List.cons_append, wtC, ih]; omega
theorem cx_take_next {L : List Tg} {k : Nat} (h : k < L.length) : L.take (k + 1) = L.take k ++ [L[k]] := by
  rw [List.take_add_one, List.getElem?_eq_getElem h]; rfl
theorem wtC_take (L : List Tg) (k : Nat) (h : k < L.length) : wtC (L.take (k + 1)) = wtC (L.take k) + (1 + L[k].wt) := by
  rw [cx_take_next h, wtC_append]; simp [wtC]
theorem wtC_take_le (L : List Tg) (k : Nat) : wtC (L.take k) ≤ wtC L := by
  have h := wtC_append (L.take k) (L.drop k)
  rw [List.take_append_drop] at h
  omega
theorem wtC_ge (L : List Tg) : L.length ≤ wtC L := by
  induction L with
  | nil => simp
  | cons a L ih => simp only [List.length_cons, wtC]; omega
theorem wtC_at (L : List Tg) (k : Nat) (h : k < L.length) : 1 + L[k].wt ≤ wtC L := by
  have h1 := wtC_take L k h
  have h2 := wtC_take_le L (k + 1)
  omega
theorem wtC_mem {L : List Tg} {x : Tg} (h : x ∈ L) : 1 + x.wt ≤ wtC L := by
  obtain ⟨k, hk, rfl⟩ := List.getElem_of_mem h
  exact wtC_at L k hk
def fitC (L : List Tg) : Prop := ∀ x ∈ L, x.nm.size ≤ 9223372036854775807
theorem fitC.at {L : List Tg} (h : fitC L) {k : Nat} (hk : k < L.length) : L[k].nm.size ≤ 9223372036854775807 := h _ (List.getElem_mem hk)

abbrev tgC (x : Tg) (p : Option Addr) (c : Nat) : Array Value := #[.string x.nm, .int .i64 x.ty.kind, .slice p x.ty.args.length c, .int .i64 x.lv]
abbrev tgV (x : Tg) (p : Option Addr) (c : Nat) : Value := .agg #[.string x.nm, .int .i64 x.ty.kind, .slice p x.ty.args.length c, .int .i64 x.lv]
abbrev tgL (x : Tg) (p : Option Addr) (c : Nat) : List Value := [.string x.nm, .int .i64 x.ty.kind, .slice p x.ty.args.length c, .int .i64 x.lv]
/-- A typing's box. -/
structure Bx4 (w : World) (b : Nat) (x : Tg) (p : Option Addr) (c : Nat) : Prop where
  nm : w.cell? ⟨b, 0, none⟩ = some (.string x.nm)
  kind : w.cell? ⟨b, 1, none⟩ = some (.int .i64 x.ty.kind)
  args : w.cell? ⟨b, 2, none⟩ = some (.slice p x.ty.args.length c)
  lv : w.cell? ⟨b, 3, none⟩ = some (.int .i64 x.lv)
theorem Bx4.of {w : World} {b : Nat} {x : Tg} {p : Option Addr} {c : Nat} {T : TypeId} (h : w.heap[b]? = some (.cells (tgC x p c) T (0, 0))) : Bx4 w b x p c := by
  have k : ∀ i, w.cell? ⟨b, i, none⟩ = (tgC x p c)[i]? := fun i => by simp [World.cell?, h]
  exact ⟨k 0, k 1, k 2, k 3⟩
theorem Bx4.lt {w : World} {b : Nat} {x : Tg} {p : Option Addr} {c : Nat} (h : Bx4 w b x p c) : b < w.heap.size := World.block_lt_of_cell? w _ h.nm
theorem Bx4.at {w w' : World} {b : Nat} {x : Tg} {p : Option Addr} {c : Nat} (h : Bx4 w b x p c) (hs : w'.heap[b]? = w.heap[b]?) : Bx4 w' b x p c := by
  have k : ∀ i, w'.cell? ⟨b, i, none⟩ = w.cell? ⟨b, i, none⟩ := fun i => World.cell?_of_block (a := ⟨b, i, none⟩) hs
  exact ⟨(k 0).trans h.nm, (k 1).trans h.kind, (k 2).trans h.args, (k 3).trans h.lv⟩
theorem Bx4.keep {w w' : World} {b : Nat} {x : Tg} {p : Option Addr} {c : Nat} (h : Bx4 w b x p c) (hb : Below w.heap.size w w') : Bx4 w' b x p c := h.at (hb.block b h.lt)
theorem Bx4.new (w : World) (x : Tg) (p : Option Addr) (c : Nat) (T : TypeId) : Bx4 (w.alloc (.cells (tgC x p c) T)) w.heap.size x p c :=
  Bx4.of (T := T) (by show (w.heap.push _)[w.heap.size]? = _; simp)
/-- A typing in rows of the call's own. -/
theorem OSt4 {w : World} {x : Tg} {p : Option Addr} {c : Nat} {F : Nat → Prop} (h : OS w x.ty.args (.slice p x.ty.args.length c) F) : OSt w x.ds (tgL x p c) F := by
  refine ⟨rfl, fun i z => i = 2 ∧ F z, fun i d v hd hv => ?_, fun i z _ hz => hz.2, fun i j z _ _ hij h1 h2 => hij (h1.1.trans h2.1.symm)⟩
  unfold Tg.ds at hd
  match i, hd, hv with
  | 0, hd, hv => cases hd; cases hv; exact .cell _ _
  | 1, hd, hv => cases hd; cases hv; exact .cell _ _
  | 2, hd, hv => cases hd; cases hv; exact h.dO.mono (fun z hz => ⟨rfl, hz⟩)
  | 3, hd, hv => cases hd; cases hv; exact .cell _ _
  | n + 4, hd, hv => simp at hv
def OCv (w : World) (x : Tg) (v : Value) (F : Nat → Prop) : Prop := ∃ p c, v = tgV x p c ∧ OS w x.ty.args (.slice p x.ty.args.length c) F
def NewC (x : Tg) (w : World) (e : Ending) (w' : World) : Prop := ∃ v, e = .returned v ∧ OCv w' x v (fun g => w.heap.size ≤ g ∧ g < w'.heap.size) ∧ Below w.heap.size w w'
def NewCS (L : List Tg) (w : World) (e : Ending) (w' : World) : Prop := ∃ v, e = .returned v ∧ DO w' (cxD L) v (fun g => w.heap.size ≤ g ∧ g < w'.heap.size) ∧ Below w.heap.size w w'
end Go.Proofs.Yteoeefmdfalnjaa

