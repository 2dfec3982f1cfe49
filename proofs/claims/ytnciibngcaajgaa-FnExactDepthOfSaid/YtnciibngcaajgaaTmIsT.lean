/-
  The contracts of the model's IsTerm and IsValidTerm.
-/
import Derived.Test.YtnciibngcaajgaaTmFields
import Derived.Deep.RegionHeld3
namespace Go.Proofs.Ytnciibngcaajgaa
open Go Go.RowKit

mutual
/-- Every node has one of the forms. -/
def Tm.IsT : Tm → Prop
  | .mk k a b n t r ts => IsTS ts ∧ (Tm.mk k a b n t r ts).FieldsOk ∧ (ts.length : Int) = (Tm.mk k a b n t r ts).arity
def IsTS : List Tm → Prop
  | [] => True
  | t :: ts => t.IsT ∧ IsTS ts
end
theorem Tm.IsT_eq (t : Tm) : t.IsT ↔ IsTS t.args ∧ t.FieldsOk ∧ (t.args.length : Int) = t.arity := by cases t; simp only [Tm.IsT, Tm.args]
theorem IsTS_append (a b : List Tm) : IsTS (a ++ b) ↔ IsTS a ∧ IsTS b := by
  induction a with
  | nil => simp [IsTS]
  | cons x a ih => simp only [List.cons_append, IsTS, ih, and_assoc]
theorem IsTS_take (ts : List Tm) (k : Nat) (h : k < ts.length) : IsTS (ts.take (k + 1)) ↔ IsTS (ts.take k) ∧ ts[k].IsT := by
  rw [tm_take_next h, IsTS_append]; simp [IsTS]
theorem IsTS_at (ts : List Tm) (k : Nat) (h : k < ts.length) (hs : IsTS ts) : ts[k].IsT := by
  have := (IsTS_append (ts.take (k + 1)) (ts.drop (k + 1))).1 (by rw [List.take_append_drop]; exact hs)
  exact ((IsTS_take ts k h).1 this.1).2
theorem keepN' {W w1 : World} {p : Addr} {v : Value} (hb1 : Below W.heap.size W w1) (h : W.cell? p = some v) : w1.cell? p = some v := (hb1.cell (World.block_lt_of_cell? W _ h)).trans h
theorem keep9m {w W w1 : World} {p0 p1 p2 p3 p4 p5 p6 p7 p8 : Addr} {v0 v1 v2 v3 v4 v5 v6 v7 v8 : Value} (hb1 : Below W.heap.size W w1) (h : W.cell? p0 = some v0 ∧ W.cell? p1 = some v1 ∧ W.cell? p2 = some v2 ∧ W.cell? p3 = some v3 ∧ W.cell? p4 = some v4 ∧ W.cell? p5 = some v5 ∧ W.cell? p6 = some v6 ∧ W.cell? p7 = some v7 ∧ W.cell? p8 = some v8 ∧ Below w.heap.size w W) : w1.cell? p0 = some v0 ∧ w1.cell? p1 = some v1 ∧ w1.cell? p2 = some v2 ∧ w1.cell? p3 = some v3 ∧ w1.cell? p4 = some v4 ∧ w1.cell? p5 = some v5 ∧ w1.cell? p6 = some v6 ∧ w1.cell? p7 = some v7 ∧ w1.cell? p8 = some v8 ∧ Below w.heap.size w w1 := by
  obtain ⟨h0, h1, h2, h3, h4, h5, h6, h7, h8, hz⟩ := h
  exact ⟨keepN' hb1 h0, keepN' hb1 h1, keepN' hb1 h2, keepN' hb1 h3, keepN' hb1 h4, keepN' hb1 h5, keepN' hb1 h6, keepN' hb1 h7, keepN' hb1 h8, hz.trans (hb1.mono hz.size)⟩
end Go.Proofs.Ytnciibngcaajgaa

