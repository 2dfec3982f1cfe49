/-
  The contract of the model's l5Fields: the fields of a node are those of its kind.
-/
import Derived.Test.YtfeijijeohfpgaaDoorTmNode2
import Derived.Deep.RegionHeld3
namespace Go.Proofs.YtfeijijeohfpgaaDoor
open Go Go.RowKit

def zeroT (t : Ty) : Prop := t.kind = 0 ∧ t.args.length = 0
def Tm.most (t : Tm) : Int := if t.kind = 2 then 10006 else if t.kind = 3 then 1 else 0
structure Tm.FieldsOk (t : Tm) : Prop where
  ty1 : (t.kind = 6 ∨ t.kind = 9) ↔ t.ty.valid = true
  ty2 : (t.kind = 6 ∨ t.kind = 9) ∨ zeroT t.ty
  res1 : t.kind = 9 ↔ t.res.valid = true
  res2 : t.kind = 9 ∨ zeroT t.res
  n : 0 ≤ t.n ∧ t.n ≤ t.most
  names : t.namesOk
theorem valid_lit {C : Nat → Prop} {t : Ty} {v : Value} {w : World} (h : TT w C t v) (hn : nodesS t.args ≤ 2097152) (b : Bool) (hb : t.valid = b) :
    Calls Tryd.prog 80 #[v] w fun e w' => e = .returned (.bool b) ∧ Below w.heap.size w w' := by
  refine (valid_any h hn).mono ?_
  rintro e w' ⟨r, hr, rfl, hw⟩
  exact ⟨by rw [hr, hb], hw⟩
theorem zlit {p : Prop} {a b : Bool} (h : a = true ↔ p) (h' : b = true ↔ p) : a = b := by
  cases a <;> cases b <;> simp_all
theorem keepR {w W w1 : World} {p1 p2 p3 : Addr} {v1 v2 v3 : Value} (hb1 : Below W.heap.size W w1) (h : W.cell? p1 = some v1 ∧ W.cell? p2 = some v2 ∧ W.cell? p3 = some v3 ∧ Below w.heap.size w W) :
    w1.cell? p1 = some v1 ∧ w1.cell? p2 = some v2 ∧ w1.cell? p3 = some v3 ∧ Below w.heap.size w w1 := by
  have k : ∀ {p : Addr} {v : Value}, W.cell? p = some v → w1.cell? p = some v := fun {p v} hp => (hb1.cell (World.block_lt_of_cell? W _ hp)).trans hp
  exact ⟨k h.1, k h.2.1, k h.2.2.1, h.2.2.2.trans (hb1.mono h.2.2.2.size)⟩
theorem zeroS_yes {k : Int} {p : Option Addr} {n c : Nat} (h : k = 0 ∧ n = 0) (w : World) : Calls Tryd.prog 81 #[.agg #[.int .i64 k, .slice p n c]] w fun e w' => e = .returned (.bool true) ∧ Below w.heap.size w w' := by
  refine (zeroS_any k p n c w).mono ?_
  rintro e w' ⟨r, hr, rfl, hw⟩
  exact ⟨by rw [hr.2 h], hw⟩
theorem zeroS_no {k : Int} {p : Option Addr} {n c : Nat} (h : ¬ (k = 0 ∧ n = 0)) (w : World) : Calls Tryd.prog 81 #[.agg #[.int .i64 k, .slice p n c]] w fun e w' => e = .returned (.bool false) ∧ Below w.heap.size w w' := by
  refine (zeroS_any k p n c w).mono ?_
  rintro e w' ⟨r, hr, rfl, hw⟩
  exact ⟨by rw [Bool.eq_false_iff.2 (fun e => h (hr.1 e))], hw⟩

end Go.Proofs.YtfeijijeohfpgaaDoor

